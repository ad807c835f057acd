/- Texts of the proofs, merged. -/
import Derived.Test.YtekafhogiambaaaGreatDoorZc14
import Derived.Test.YtekafhogiambaaaGreatDoorZc12
import Derived.Test.YtekafhogiambaaaGreatDoorZc2
import Derived.Lib.SplitLaws
import Derived.Test.YtekafhogiambaaaGreatDoorZc13
import Derived.Laws.CopyOwn
import Derived.Deep.CutRange
set_option maxRecDepth 100000
namespace Go.Proofs.YtekafhogiambaaaGreatDoor.Rd
theorem setN_names (d : Dt) (k v : Nat) : (setN d k v).host = d.host ∧ (setN d k v).mail = d.mail:=by
 unfold setN
 split <;> exact ⟨rfl,rfl⟩
theorem rdP_small {o : By} {p : Nat} {s s' : RS} (ho : nm o = true) (h : rdP o p s = some s') (hh : s.2.1.host.length ≤ 255) (hm : s.2.1.mail.length ≤ 255) : s'.2.1.host.length ≤ 255 ∧ s'.2.1.mail.length ≤ 255:=by
 unfold rdP at h
 split at h
 · injection h with h
   subst h
   exact ⟨hh,hm⟩
 split at h
 · simp only [Option.bind_eq_some_iff,Option.map_eq_some_iff] at h
   obtain ⟨x,_,r,_,rfl⟩:=h
   exact ⟨hh,hm⟩
 split at h
 · simp only [Option.bind_eq_some_iff,Option.map_eq_some_iff] at h
   obtain ⟨x,_,r,_,rfl⟩:=h
   exact ⟨hh,hm⟩
 split at h
 · split at h
   · cases h
   · simp only [Option.map_eq_some_iff] at h
     obtain ⟨r,_,rfl⟩:=h
     exact ⟨hh,hm⟩
 split at h
 · cases h
 split at h
 · simp only [Option.bind_eq_some_iff,Option.map_eq_some_iff] at h
   obtain ⟨x,_,r,hr,rfl⟩:=h
   exact ⟨Rd.nm_len (nameR_is ho hr),hm⟩
 split at h
 · simp only [Option.bind_eq_some_iff,Option.map_eq_some_iff] at h
   obtain ⟨x,_,r,hr,rfl⟩:=h
   exact ⟨hh,Rd.nm_len (nameR_is ho hr)⟩
 · simp only [Option.bind_eq_some_iff,Option.map_eq_some_iff] at h
   obtain ⟨x,_,v,_,rfl⟩:=h
   obtain ⟨e1,e2⟩:=setN_names s.2.1 s.2.2 v
   show (setN s.2.1 s.2.2 v).host.length ≤ 255 ∧ (setN s.2.1 s.2.2 v).mail.length ≤ 255
   rw [e1,e2]
   exact ⟨hh,hm⟩
theorem rdAll_small {o : By} (ho : nm o = true) : ∀ (ps : List Nat) (s s' : RS),rdAll o ps s = some s' → s.2.1.host.length ≤ 255 → s.2.1.mail.length ≤ 255 → s'.2.1.host.length ≤ 255 ∧ s'.2.1.mail.length ≤ 255
 | [],s,s',h,hh,hm=>by
  rw [rdAll] at h
  injection h with h
  subst h
  exact ⟨hh,hm⟩
 | p :: ps,s,s',h,hh,hm=>by
  rw [rdAll,Option.bind_eq_some_iff] at h
  obtain ⟨s1,h1,h2⟩:=h
  obtain ⟨a,b⟩:=rdP_small ho h1 hh hm
  exact rdAll_small ho ps s1 s' h2 a b
theorem readR_small {o : By} {t : Nat} {ws : List W2} {d : Dt} (ho : nm o = true) (h : readR o t ws = some d) : d.host.length ≤ 255 ∧ d.mail.length ≤ 255:=by
 have key : ∀ us,knownR o t us = some d → d.host.length ≤ 255 ∧ d.mail.length ≤ 255:=fun us h=>by
  unfold knownR at h
  rw [Option.bind_eq_some_iff] at h
  obtain ⟨s,h1,h2⟩:=h
  split at h2
  · injection h2 with h2
    subst h2
    exact rdAll_small ho _ _ _ h1 (Nat.zero_le _) (Nat.zero_le _)
  · cases h2
 unfold readR at h
 split at h
 · exact key _ h
 · split at h
   · rw [Option.bind_eq_some_iff] at h
     obtain ⟨raw,_,h⟩:=h
     have f:=(takeR_ok h).2
     exact ⟨f.host,f.mail⟩
   · exact key _ h
theorem tyOf_small {s : By} {t : Nat} (h : tyOf s = some t) : t ≤ 65535:=by
 unfold tyOf at h
 split at h
 · rename_i x hx
   injection h with h
   subst h
   have hm:=List.mem_of_find?_eq_some hx
   have : ∀ y ∈ tyTab,y.1 ≤ 65535:=by decide
   exact this x hm
 · split at h
   · exact Rd.num_le h
   · cases h
end Go.Proofs.YtekafhogiambaaaGreatDoor.Rd
namespace Go.Proofs.YtekafhogiambaaaGreatDoor
open Go.RowKit
def Rd.hxa : Nat → List UInt8 → Option Nat
 | a, []=>some a
 | a,c :: r=>(Rd.hexD c).bind fun d=>Rd.hxa (16 * a + d) r
theorem Rd.hxa_fold : ∀ (s : List UInt8) (a : Nat),(s.foldl (fun v c=>match v,Rd.hexD c with
 | some v,some d=>some (16 * v + d)
 | _,_=>none) (some a)) = Rd.hxa a s
 | [],_=>rfl
 | c :: r,a=>by
  have hn : ∀ r : List UInt8,(r.foldl (fun v c=>match v,Rd.hexD c with
   | some v,some d=>some (16 * v + d)
   | _,_=>none) (none : Option Nat)) = none:=fun r=>by induction r with
   | nil=>rfl
   | cons c r ih=>rw [List.foldl_cons];exact ih
  rw [List.foldl_cons,Rd.hxa]
  cases hd : Rd.hexD c with
  | none=>exact hn r
  | some d=>exact Rd.hxa_fold r _
theorem Rd.hexV_hxa (s : List UInt8) : Rd.hexV s = Rd.hxa 0 s:=Rd.hxa_fold s 0
theorem Rd.hexD_lt {c : UInt8} {d : Nat} (h : Rd.hexD c = some d) : d < 16 ∧ ((48 ≤ c.toNat ∧ c.toNat ≤ 57 ∧ d = c.toNat - 48) ∨ (97 ≤ c.toNat ∧ c.toNat ≤ 102 ∧ d = c.toNat - 87) ∨ (65 ≤ c.toNat ∧ c.toNat ≤ 70 ∧ d = c.toNat - 55)):=by
 unfold Rd.hexD at h
 split at h
 · injection h with h;omega
 split at h
 · injection h with h;omega
 split at h
 · injection h with h;omega
 · cases h
theorem Rd.hxa_le : ∀ {s : List UInt8} {a v : Nat},Rd.hxa a s = some v → a ≤ v ∧ v < (a + 1) * 16 ^ s.length
 | [],a,v,h=>by injection h with h;subst h;simp
 | c :: r,a,v,h=>by
  rw [Rd.hxa] at h
  cases hd : Rd.hexD c with
  | none=>rw [hd] at h;cases h
  | some d =>
   rw [hd,Option.bind_some] at h
   obtain ⟨h1,h2⟩:=Rd.hxa_le h
   have hl:=(Rd.hexD_lt hd).1
   refine ⟨by omega,Nat.lt_of_lt_of_le h2 ?_⟩
   rw [List.length_cons,Nat.pow_succ,Nat.mul_comm (16 ^ r.length) 16,← Nat.mul_assoc]
   exact Nat.mul_le_mul_right _ (by omega)
theorem lower_any (c : Int) (w : World) : Calls Tryz.prog 136 #[.int .u8 c] w fun e w' => e = .returned (.int .u8 (bits .or .u8 c 32)) ∧ w = w':=by
 go_enter Tryz.func136,Tryz.ntmps136
 go_wp2
 go_ret
 exact ⟨rfl,rfl⟩
theorem low_small {n : Nat} (h1 : 97 ≤ n) (h2 : n ≤ 102) : bits BinOp.or IntKind.u8 (n : Int) 32 = (n : Int):=by
 rcases (by omega : n = 97 ∨ n = 98 ∨ n = 99 ∨ n = 100 ∨ n = 101 ∨ n = 102) with rfl | rfl | rfl | rfl | rfl | rfl <;> kernel_rfl
theorem low_great {n : Nat} (h1 : 65 ≤ n) (h2 : n ≤ 70) : bits BinOp.or IntKind.u8 (n : Int) 32 = (n : Int) + 32:=by
 rcases (by omega : n = 65 ∨ n = 66 ∨ n = 67 ∨ n = 68 ∨ n = 69 ∨ n = 70) with rfl | rfl | rfl | rfl | rfl | rfl <;> kernel_rfl
set_option maxHeartbeats 4000000 in
theorem iuint_16 (t : ByteArray) (w : World) (h0 : t.size ≠ 0) (h4 : t.size ≤ 4) {v : Nat} (hv : Rd.hxa 0 t.data.toList = some v) :
 Calls Tryz.prog 112 #[.string t,.int .i64 16,.int .i64 16] w fun e w' => e = .returned (.tuple #[.int .u64 v,.nilIface]) ∧ Below w.heap.size w w':=by
 have hemp : t.toList.isEmpty = false:=empty_no h0
 have hcv:=Lib.run_convert_string_bytes (P:=Tryz.prog) w 9 51 5 t Tryz.underlying9 Tryz.underlying51 Tryz.underlying5
 have hB : ∀ j,j < t.size → (Lib.bytesWorld w 5 t).cell? ⟨w.heap.size,j,none⟩ = some (.int .u8 (t.data.toList.getD j 0).toNat):=fun j hj=>Lib.bytesWorld_cell w 5 t j hj
 have hBel:=bytesWorld_below w 5 t
 obtain ⟨W1,hW1⟩ : ∃ W1,W1 = Lib.bytesWorld w 5 t:=⟨_,rfl⟩
 rw [← hW1] at hcv hB hBel
 clear hW1
 have HBel:=Lib.hid hBel
 clear hBel
 obtain ⟨bs,hL⟩ : ∃ bs,bs = t.data.toList:=⟨_,rfl⟩
 have hLn : bs.length = t.size:=by rw [hL,Lib.size_eq]
 rw [← hL] at hB hv
 clear hL
 have hv4 : v < 65536:=by
  have:=(Rd.hxa_le hv).2
  have h16 : 16 ^ bs.length ≤ 16 ^ 4:=Nat.pow_le_pow_right (by decide) (by omega)
  omega
 have HV:=Lib.hid hv
 clear hv
 have hmv : IntKind.u64.wrap (65536 - 1) = 65535:=by rw [IntKind.wrap_u64];decide
 go_enter Tryz.func112,Tryz.ntmps112
 go_wp2
 go_loop [12,13,101] (fun vu vn vi => ∃ (k acc : Nat) (a : Int),vu = .bool false ∧ vn = .int .u64 a ∧ vi = .int .i64 k ∧ k ≤ t.size ∧ Hid (a = (acc : Int)) ∧ Hid (Rd.hxa acc (bs.drop k) = some v))
  (fun _ _ vi=>t.size - (intOf vi).toNat)
 case atStart=>exact ⟨0,0,0,rfl,rfl,rfl,by omega,rfl,HV.out⟩
 case round =>
  obtain ⟨k,acc,a,rfl,rfl,rfl,hk,HA,HD⟩:=hrel
  have hle:=(Rd.hxa_le HD.out).1
  have a0 : 0 ≤ a:=by rw [HA.out];omega
  have a1 : a < 65536:=by rw [HA.out];omega
  by_cases hkn : k < t.size
  · have hc:=hB k hkn
    have hdrop : bs.drop k = bs[k]'(by omega) :: bs.drop (k + 1):=List.drop_eq_getElem_cons (by omega)
    have hget : bs.getD k 0 = bs[k]'(by omega):=by simp [List.getD,List.getElem?_eq_getElem (show k < bs.length by omega)]
    have hdec:=HD.out
    rw [hdrop] at hdec
    rw [hget] at hc
    generalize bs[k]'(by omega) = c at hc hdec
    have hc256 : c.toNat < 256:=c.toNat_lt
    rw [Rd.hxa] at hdec
    cases hd : Rd.hexD c with
    | none=>rw [hd] at hdec;cases hdec
    | some d =>
     rw [hd,Option.bind_some] at hdec
     have hle2:=(Rd.hxa_le hdec).1
     have HDEC:=Lib.hid hdec
     have ha2 : a * 16 + (d : Int) ≤ 65535:=by rw [HA.out];omega
     obtain ⟨hd16,hcs⟩:=Rd.hexD_lt hd
     have hac : Hid (a * 16 + (d : Int) = ((16 * acc + d : Nat) : Int)):=by rw [Hid,HA.out];omega
     clear hB hdrop hget hdec hd hle2 HD hle
     rcases hcs with ⟨g1,g2,g3⟩ | ⟨g1,g2,g3⟩ | ⟨g1,g2,g3⟩
     · have G:=Lib.hid (show (c.toNat : Int) - 48 = (d : Int) by omega)
       clear g3
       go_wp2_with (go_at_call 136;refine (lower_any _ _).mono ?_;rintro e w' ⟨rfl,rfl⟩)
       exact ⟨⟨k + 1,16 * acc + d,a * 16 + ((c.toNat : Int) - 48),rfl,rfl,by go_num,by omega,by rw [G.out];exact hac,HDEC.out⟩,by simp [intOf];omega⟩
     · have hlow:=low_small g1 g2
       have G:=Lib.hid (show (c.toNat : Int) - 97 + 10 = (d : Int) by omega)
       clear g3
       go_wp2_with (go_at_call 136;refine (lower_any _ _).mono ?_;rintro e w' ⟨rfl,rfl⟩)
       exact ⟨⟨k + 1,16 * acc + d,a * 16 + ((c.toNat : Int) - 97 + 10),rfl,rfl,by go_num,by omega,by rw [G.out];exact hac,HDEC.out⟩,by simp [intOf];omega⟩
     · have hlow:=low_great g1 g2
       have G:=Lib.hid (show (c.toNat : Int) + 32 - 97 + 10 = (d : Int) by omega)
       clear g3
       go_wp2_with (go_at_call 136;refine (lower_any _ _).mono ?_;rintro e w' ⟨rfl,rfl⟩)
       exact ⟨⟨k + 1,16 * acc + d,a * 16 + ((c.toNat : Int) + 32 - 97 + 10),rfl,rfl,by go_num,by omega,by rw [G.out];exact hac,HDEC.out⟩,by simp [intOf];omega⟩
  · have hkk : k = t.size:=by omega
    subst hkk
    have hdec:=HD.out
    rw [List.drop_eq_nil_of_le (by omega)] at hdec
    injection hdec with hdec
    have ha:=HA.out
    rw [hdec] at ha
    subst ha
    clear hdec HD HA a0 a1 hle
    go_wp2
    go_ret2
    exact ⟨rfl,HBel.out⟩
theorem uint_16 (t : ByteArray) (w : World) (h0 : t.size ≠ 0) (h4 : t.size ≤ 4) {v : Nat} (hv : Rd.hxa 0 t.data.toList = some v) :
 Calls Tryz.prog 91 #[.string t,.int .i64 16,.int .i64 16] w fun e w' => e = .returned (.tuple #[.int .u64 v,.nilIface]) ∧ Below w.heap.size w w':=by
 have H:=Lib.hid (iuint_16 t w h0 h4 hv)
 clear hv
 go_enter Tryz.func91,Tryz.ntmps91
 go_wp2_with (go_at_call 112;refine H.out.mono ?_;rintro e w1 ⟨rfl,hB⟩)
 go_ret2
 exact ⟨rfl,hB⟩
theorem rdHex_ok (p : Value) (s : List UInt8) (w : World) {v : Nat} (h : Rd.hexR s = some v) :
 Calls Tryz.prog 119 #[p,sv s] w fun e w' => e = .returned (.int .u16 v) ∧ Below w.heap.size w w':=by
 unfold Rd.hexR at h
 by_cases hb : s.length = 0 ∨ 4 < s.length
 · rw [if_pos hb] at h;cases h
 rw [if_neg hb,Rd.hexV_hxa] at h
 have hz : (⟨s.toArray⟩ : ByteArray).size = s.length:=mk_size s
 obtain ⟨t,ht⟩ : ∃ t,(⟨s.toArray⟩ : ByteArray) = t:=⟨_,rfl⟩
 have hd : t.data.toList = s:=by rw [← ht]
 rw [ht] at hz
 have h4 : t.size ≤ 4:=by omega
 have hv : v < 65536:=by
  have:=(Rd.hxa_le h).2
  have h16 : 16 ^ s.length ≤ 16 ^ 4:=Nat.pow_le_pow_right (by decide) (by omega)
  omega
 have H:=Lib.hid (uint_16 t w (by omega) h4 (by rw [hd];exact h))
 show Calls Tryz.prog 119 #[p,.string ⟨s.toArray⟩] w _
 rw [ht]
 clear h hb ht hd hz
 go_enter Tryz.func119,Tryz.ntmps119
 go_wp2_with (go_at_call 91;refine H.out.mono ?_;rintro e w1 ⟨rfl,hB⟩)
 go_ret
 exact ⟨rfl,hB⟩
end Go.Proofs.YtekafhogiambaaaGreatDoor
namespace Go.Proofs.YtekafhogiambaaaGreatDoor.Rd
theorem at_first (b : UInt8) : ∀ s : By,(∀ c ∈ s,c ≠ b) ∨ ∃ p t,s = p ++ b :: t ∧ ∀ c ∈ p,c ≠ b
 | []=>.inl (fun _ h=>by cases h)
 | c :: r=>by
  by_cases h : c = b
  · exact .inr ⟨[],r,by rw [h];rfl,fun _ h=>by cases h⟩
  · rcases at_first b r with h1 | ⟨p,t,rfl,h1⟩
    · exact .inl (fun x hx=>by rcases List.mem_cons.1 hx with rfl | hx;exact h;exact h1 x hx)
    · exact .inr ⟨c :: p,t,rfl,fun x hx=>by rcases List.mem_cons.1 hx with rfl | hx;exact h;exact h1 x hx⟩
theorem idx_cons {b c : UInt8} {r : By} (h : c ≠ b) : Lib.index (c :: r) [b] = if Lib.index r [b] == -1 then -1 else Lib.index r [b] + 1:=by
 have hp : ([b] : By).isPrefixOf (c :: r) = false:=by
  have : (b == c) = false:=beq_eq_false_iff_ne.2 (fun e=>h e.symm)
  simp [List.isPrefixOf,this]
 rw [Lib.index,hp]
 rfl
theorem idx_no {b : UInt8} : ∀ {s : By},(∀ c ∈ s,c ≠ b) → Lib.index s [b] = -1
 | [],_=>rfl
 | c :: r,h=>by rw [idx_cons (h c (by simp)),idx_no (fun x hx=>h x (by simp [hx]))];rfl
theorem idx_at {b : UInt8} {t : By} : ∀ {p : By},(∀ c ∈ p,c ≠ b) → Lib.index (p ++ b :: t) [b] = (p.length : Int)
 | [],_=>by rw [List.nil_append,Lib.index,if_pos (by simp [List.isPrefixOf])];rfl
 | c :: r,h=>by
  rw [List.cons_append,idx_cons (h c (by simp)),idx_at (fun x hx=>h x (by simp [hx])),if_neg (by simp),List.length_cons]
  omega
theorem splitK_eq (b : UInt8) : ∀ (n : Nat) (s : By),s.length ≤ n → Lib.splitK [b] 0 (Lib.count s [b]) s = splitB b s
 | 0,s,h=>by
  have : s = []:=List.length_eq_zero_iff.1 (by omega)
  subst this
  rfl
 | n + 1,s,h=>by
  rcases at_first b s with h1 | ⟨p,t,rfl,h1⟩
  · rw [Lib.count_miss (idx_no h1),splitB_no h1]
    rfl
  · have hi:=idx_at (t:=t) h1
    have hd : (p ++ b :: t).drop (p.length + ([b] : By).length) = t:=by
     rw [List.length_singleton,List.drop_append,List.drop_eq_nil_of_le (by omega),List.nil_append,show p.length + 1 - p.length = 1 by omega]
     rfl
    rw [Lib.count_hit (by simp) hi,hd,Nat.add_comm 1,Lib.splitK,hi,if_neg (by simp),Int.toNat_natCast,hd,splitB_cons t h1,Nat.add_zero,splitK_eq b n t (by simp at h;omega)]
    congr 1
    simp
theorem split_lib (s : ByteArray) (b : UInt8) : (Lib.splitB ⟨#[b]⟩ 0 (Lib.countB s ⟨#[b]⟩) s).map (·.data.toList) = splitB b s.data.toList:=by
 rw [Lib.splitB_data]
 exact splitK_eq b _ _ (Nat.le_refl _)
theorem cut2_lib : ∀ s : By,Lib.cut s [58,58] = cut2 s
 | []=>rfl
 | [c]=>by simp [cut2,Lib.cut,Lib.index,List.isPrefixOf]
 | c :: d :: r=>by
  have ih:=cut2_lib (d :: r)
  by_cases h : c = 58 ∧ d = 58
  · obtain ⟨rfl,rfl⟩:=h
    simp [cut2,Lib.cut,Lib.index,List.isPrefixOf]
  · have hp : ([58,58] : By).isPrefixOf (c :: d :: r) = false:=by
     by_cases hc : c = 58
     · have hd : ¬ d = 58:=fun e=>h ⟨hc,e⟩
       have : ((58 : UInt8) == d) = false:=beq_eq_false_iff_ne.2 (fun e=>hd e.symm)
       simp [List.isPrefixOf,this]
     · have : ((58 : UInt8) == c) = false:=beq_eq_false_iff_ne.2 (fun e=>hc e.symm)
       simp [List.isPrefixOf,this]
    have e : Lib.index (c :: d :: r) [58,58] = if Lib.index (d :: r) [58,58] == -1 then -1 else Lib.index (d :: r) [58,58] + 1:=by
     rw [Lib.index,hp]
     rfl
    rw [cut2,if_neg h,← ih]
    unfold Lib.cut
    rw [e]
    have hge:=Lib.index_ge (d :: r) [58,58]
    generalize Lib.index (d :: r) [58,58] = i at *
    by_cases h0 : 0 ≤ i
    · obtain ⟨k,rfl⟩:=Int.eq_ofNat_of_zero_le h0
      have e1 : ((k : Int) == -1) = false:=beq_eq_false_iff_ne.2 (by omega)
      have e3 : (if ((k : Int) == -1) = true then (-1 : Int) else (k : Int) + 1) = (k : Int) + 1:=by rw [e1];rfl
      rw [e3,if_pos (by omega),if_pos (by omega)]
      have e2 : ((k : Int) + 1).toNat = k + 1:=by omega
      rw [e2,Int.toNat_natCast]
      simp
    · have e1 : i = -1:=by omega
      subst e1
      rfl
end Go.Proofs.YtekafhogiambaaaGreatDoor.Rd
namespace Go.Proofs.YtekafhogiambaaaGreatDoor
open Go.RowKit
theorem split_any (s : List UInt8) (b : UInt8) (w : World) (hs : s.length < 4294967281) (hm : ∃ m : Int,w.cell? ⟨2,0,none⟩ = some (.int .i64 m)) :
 Calls Tryz.prog 144 #[sv s,.string ⟨#[b]⟩] w fun e w' => e = .returned (.slice (some ⟨w.heap.size,0,none⟩) (Rd.splitB b s).length (Rd.splitB b s).length) ∧ w' = w.alloc (.cells (svs (Rd.splitB b s)).toArray 9):=by
 obtain ⟨m,hm⟩:=hm
 have hl:=Rd.split_lib ⟨s.toArray⟩ b
 have hn:=Lib.splitB_all ⟨#[b]⟩ (Nat.le_refl 1) 0 _ ⟨s.toArray⟩ rfl
 have e1 : Lib.countB ⟨s.toArray⟩ ⟨#[b]⟩ + 1 = (Rd.splitB b s).length:=by
  rw [← hn,← List.length_map (f:=fun x : ByteArray=>x.data.toList),hl]
 have e2 : (Lib.splitB ⟨#[b]⟩ 0 (Lib.countB ⟨s.toArray⟩ ⟨#[b]⟩) ⟨s.toArray⟩).map Value.string = svs (Rd.splitB b s):=by
  have : Rd.splitB b s = (Lib.splitB ⟨#[b]⟩ 0 (Lib.countB ⟨s.toArray⟩ ⟨#[b]⟩) ⟨s.toArray⟩).map (·.data.toList):=by rw [hl]
  rw [this,svs,List.map_map]
  congr 1
 have H:=Tryz.strings_Split ⟨s.toArray⟩ ⟨#[b]⟩ m w (by simpa [ByteArray.size] using hs) hm (Nat.le_refl 1)
 rw [e1,e2] at H
 exact H
theorem Rd.splitB_len {b : UInt8} : ∀ {s p : List UInt8},p ∈ Rd.splitB b s → p.length ≤ s.length
 | [],p,h=>by
  have : p = []:=by simpa [Rd.splitB] using h
  rw [this]
  simp
 | c :: r,p,h=>by
  rw [Rd.splitB] at h
  split at h
  · rcases List.mem_cons.1 h with rfl | h
    · simp
    · have:=Rd.splitB_len h
      rw [List.length_cons];omega
  · split at h
    · rename_i e
      have : p = [c]:=by simpa using h
      rw [this];simp
    · rename_i q qs e
      rcases List.mem_cons.1 h with rfl | h
      · have:=Rd.splitB_len (b:=b) (s:=r) (p:=q) (by rw [e];simp)
        rw [List.length_cons,List.length_cons];omega
      · have:=Rd.splitB_len (b:=b) (s:=r) (p:=p) (by rw [e];exact List.mem_cons_of_mem _ h)
        rw [List.length_cons];omega
def r4 (out : List UInt8) : Array Value:=(bv out ++ List.replicate (4 - out.length) (Value.int .u8 0)).toArray
theorem r4_set (out : List UInt8) (c : UInt8) (h : out.length < 4) : (r4 out).setIfInBounds out.length (.int .u8 (c.toNat : Int)) = r4 (out ++ [c]):=by
 unfold r4
 have e : 4 - out.length = (4 - (out ++ [c]).length) + 1:=by simp;omega
 rw [List.setIfInBounds_toArray,List.set_append_right _ _ (by simp [bv]),bv_length,Nat.sub_self,e,List.replicate_succ,List.set_cons_zero]
 simp [bv]
theorem r4_at (out : List UInt8) (h : out.length < 4) : (r4 out)[out.length]? = some (.int .u8 0):=by
 unfold r4
 rw [List.getElem?_toArray,List.getElem?_append_right (by simp [bv]),bv_length,Nat.sub_self,List.getElem?_replicate,if_pos (by omega)]
theorem Rd.allM_at {f : List UInt8 → Option Nat} : ∀ {l : List (List UInt8)} {vs : List Nat},Rd.allM f l = some vs → vs.length = l.length ∧ ∀ j (h : j < l.length) (h2 : j < vs.length),f l[j] = some vs[j]
 | [],vs,h=>by
  injection h with h
  subst h
  exact ⟨rfl,fun j h=>absurd h (by simp)⟩
 | p :: r,vs,h=>by
  rw [Rd.allM] at h
  split at h
  · rename_i v vs' h1 h2
    injection h with h
    subst h
    obtain ⟨e1,e2⟩:=Rd.allM_at h2
    refine ⟨by simp [e1],fun j hj hj2=>?_⟩
    cases j with
    | zero=>exact h1
    | succ j=>exact e2 j (by simpa using hj) (by simpa using hj2)
  · cases h
section
variable {g hi n : Nat} {o : ByteArray} {ws : List Rd.W2} {x : Rd.W2} {d : Rd.Dt} {w : World}
theorem St.ml (h : St w g hi o ws d n) : ∃ m : Int,w.cell? ⟨2,0,none⟩ = some (.int .i64 m):=h.gl.2.2.1
set_option maxHeartbeats 1000000 in
theorem rdFour_ok (h : St w g hi o (x :: ws) d n) (hx : x.2 = false) (h32 : x.1.length < 4294967281) {r : List UInt8} (hr : Rd.addr4 x.1 = some r) :
 Calls Tryz.prog 122 #[.pointer (some ⟨g,0,none⟩)] w fun e w' => e = .returned (.tuple #[]) ∧ St w' g hi o ws { d with raw:=r } n ∧ Kb g w.heap.size w w':=by
 have HP:=Lib.hid (rdPlain_any h hx)
 have HSP:=Lib.hid (fun (W : World) hm=>split_any x.1 46 W h32 hm)
 clear h
 obtain ⟨ps,hps⟩ : ∃ ps,Rd.splitB 46 x.1 = ps:=⟨_,rfl⟩
 unfold Rd.addr4 at hr
 rw [hps] at hr HSP
 have h4 : ps.length = 4:=Decidable.byContradiction fun h4=>by rw [if_neg h4] at hr;cases hr
 rw [if_pos h4] at hr
 cases hv : Rd.allM (fun p=>Rd.num p 255) ps with
 | none=>rw [hv] at hr;cases hr
 | some vs =>
  rw [hv,Option.map_some] at hr
  injection hr with hr
  obtain ⟨hvl,hva⟩:=Rd.allM_at hv
  have HVA:=Lib.hid hva
  have HVL:=Lib.hid (hvl.trans h4)
  have HR:=Lib.hid hr
  have HP4:=Lib.hid h4
  have hpl : ∀ p ∈ ps,p.length ≤ 140737488355328:=fun p hp=>by
   rw [← hps] at hp
   have:=Rd.splitB_len hp
   omega
  have HPL:=Lib.hid hpl
  rw [h4] at HSP
  clear hv hva hvl hr hps hpl h4
  go_enter Tryz.func122,Tryz.ntmps122
  go_wp2_with (first
   | (go_at_call 117;refine HP.out.mono ?_;rintro e w1 ⟨rfl,S1,K1⟩;have HM:=Lib.hid S1.ml;have HS:=Lib.hid S1;have HK:=Lib.hid K1;clear S1 K1)
   | (go_at_call 144;refine (HSP.out _ HM.out).mono ?_;rintro e w2 ⟨rfl,E2⟩;have HE2:=Lib.hid E2;clear E2))
  have hB12 : Below w1.heap.size w1 w2:=by rw [HE2.out];exact (Below.refl _ _).alloc (Nat.le_refl _) _
  have hlt12 : w1.heap.size < w2.heap.size:=by rw [HE2.out];simp
  have hpc : ∀ j (hj : j < ps.length),w2.cell? ⟨w1.heap.size,j,none⟩ = some (sv (ps[j]'hj)):=fun j hj=>by
   rw [HE2.out,(Has.fresh w1 9 (svs ps).toArray).cell]
   simp [svs,hj]
  have HPC:=Lib.hid hpc
  have HB12:=Lib.hid hB12
  have HB0:=Lib.hid ((Below.refl w2.heap.size w2).alloc (Nat.le_refl _) (.cells #[.int .u8 0,.int .u8 0,.int .u8 0,.int .u8 0] 198))
  clear hpc hB12 HE2 HM
  go_loopw [16] (fun i wr => ∃ k : Nat,i = .int .i64 k ∧ k ≤ 4 ∧ Hid (Below w2.heap.size w2 wr) ∧ Hid (Has wr w2.heap.size 198 (r4 (r.take k)))) (fun i _=>4 - (intOf i).toNat)
  case atStart=>exact ⟨0,rfl,by omega,HB0.out,Has.fresh w2 _ _⟩
  case round =>
   obtain ⟨k,rfl,hk,HB,HH⟩:=hrel
   have hsz:=HB.out.size
   by_cases hlt : k < 4
   · have hj : k < ps.length:=by rw [HP4.out];exact hlt
     have hj2 : k < vs.length:=by rw [HVL.out];exact hlt
     have hnum:=HVA.out k hj hj2
     have hle:=Rd.num_le hnum
     have cp : wr.cell? ⟨w1.heap.size,k,none⟩ = some (sv (ps[k]'hj)):=(HB.out.cell (p:=⟨w1.heap.size,k,none⟩) hlt12).trans (HPC.out k hj)
     have hpk:=HPL.out _ (List.getElem_mem hj)
     have hrl : r.length = 4:=by rw [← HR.out,List.length_map,HVL.out]
     have hrt : (r.take k).length = k:=by rw [List.length_take,hrl];omega
     have hrk : r.take (k + 1) = r.take k ++ [UInt8.ofNat (vs[k]'hj2)]:=by
      rw [List.take_succ_eq_append_getElem (by omega)]
      simp only [← HR.out,List.getElem_map]
     have ht8 : (UInt8.ofNat (vs[k]'hj2)).toNat = vs[k]'hj2:=by simp;omega
     have hset:=r4_set (r.take k) (UInt8.ofNat (vs[k]'hj2)) (by omega)
     rw [hrt,ht8,← hrk] at hset
     have hat:=r4_at (r.take k) (by omega)
     rw [hrt] at hat
     have HSET:=Lib.hid hset
     have ck : wr.cell? ⟨w2.heap.size,k,none⟩ = some (.int .u8 0):=by rw [HH.out.cell];exact hat
     have HDG:=Lib.hid (fun (W : World)=>rdDigits_ok (.pointer (some ⟨g,0,none⟩)) ⟨(ps[k]'hj).toArray⟩ W 8 (.inl rfl) (by rw [mk_size];exact hpk) (by simpa using hnum))
     generalize ps[k]'hj = pk at *
     generalize vs[k]'hj2 = vk at *
     have hwr : IntKind.u8.wrap (vk : Int) = (vk : Int):=by rw [IntKind.wrap_u8];omega
     have hki : (k : Int) < 4:=by omega
     clear hset hat hrk hrt ht8 hnum hpk hrl
     go_wp2_with (go_at_call 142;refine (HDG.out _).mono ?_;rintro e w3 ⟨rfl,B3⟩;have c3:=(B3.cell (p:=⟨w2.heap.size,k,none⟩) HH.out.lt).trans ck;have HH3:=Lib.hid (HH.out.below B3 HH.out.lt);have f3:=HH3.out.free k;have HB3:=Lib.hid (HB.out.trans (B3.mono hsz));clear B3)
     exact ⟨⟨k + 1,by go_num,by omega,HB3.out.setCell (Nat.le_refl _) _,by rw [← HSET.out];exact HH3.out.set _ _⟩,by simp [intOf];omega⟩
   · obtain rfl : k = 4:=by omega
     have hrl : r.length = 4:=by rw [← HR.out,List.length_map,HVL.out]
     have hR4 : Has wr w2.heap.size 198 (bv r).toArray:=by
      have:=HH.out
      rw [List.take_of_length_le (by omega)] at this
      unfold r4 at this
      rw [hrl] at this
      simpa using this
     have hcv:=run_convert_bs (w:=wr) (P:=Tryz.prog) 51 9 5 Tryz.underlying51 Tryz.underlying5 Tryz.underlying9 0 (w2.heap.size + 1) (some ⟨w2.heap.size,0,none⟩) 4 4 r hrl.symm (fun _=>⟨w2.heap.size,0,rfl,Nat.zero_le _,by omega,fun j hj=>by rw [hR4.cell,Nat.zero_add];simp [bv,hj]⟩)
     have SW:=HS.out.keep (HB12.out.trans (HB.out.mono (by omega)))
     obtain ⟨v,hh⟩:=SW.has
     have c2 : wr.cell? ⟨g,2,none⟩ = some (sv d.raw):=by rw [hh.cell];rfl
     have f2:=hh.free 2
     have HSW:=Lib.hid SW
     have HKW:=Lib.hid (HK.out.onB (HB12.out.trans (HB.out.mono (by omega))))
     clear hR4 SW hh hrl HH HB HR HVA HVL HPL HPC
     go_wp2
     go_end0
     exact ⟨rfl,HSW.out.put (i:=2) (u:=sv r) rfl (fun v=>rfl),HKW.out.set 2 _⟩
end
end Go.Proofs.YtekafhogiambaaaGreatDoor
namespace Go.Proofs.YtekafhogiambaaaGreatDoor
open Go.RowKit
theorem Tryz.infoU16 : (Tryz.prog.info? 34).map (fun i=>(i.zero,i.size,i.bytes)) = some (some (.int .u16 0),1,2):=by kernel_rfl
def u16s (vs : List Nat) : List Value:=vs.map fun (n : Nat)=>Value.int .u16 (n : Int)
theorem u16s_snoc (vs : List Nat) (k : Nat) (h : k < vs.length) : u16s (vs.take (k + 1)) = u16s (vs.take k) ++ [.int .u16 ((vs[k]'h : Nat) : Int)]:=by
 rw [List.take_succ_eq_append_getElem h]
 unfold u16s
 rw [List.map_append]
 rfl
theorem Rd.splitB_count (b : UInt8) : ∀ s : List UInt8,(Rd.splitB b s).length ≤ s.length + 1
 | []=>by simp [Rd.splitB]
 | c :: r=>by
  have:=Rd.splitB_count b r
  rw [Rd.splitB]
  split
  · simp;omega
  · split
    · simp
    · rename_i e
      rw [e] at this
      simp at this ⊢
      omega
set_option maxHeartbeats 1000000 in
theorem rdGroups_ok (p : Value) (s : List UInt8) (w : World) (h32 : s.length < 4294967281) (hm : ∃ m : Int,w.cell? ⟨2,0,none⟩ = some (.int .i64 m)) {vs : List Nat} (hv : Rd.groupsR s = some vs) :
 Calls Tryz.prog 146 #[p,sv s] w fun e w' => ∃ v,e = .returned v ∧ w'.ownsRow w.heap.size 34 1 v vs.length (u16s vs) ∧ Below w.heap.size w w':=by
 obtain ⟨i0,hi0,hz0,hz1,hz2⟩:=info_parts Tryz.infoU16
 unfold Rd.groupsR at hv
 have hz : (⟨s.toArray⟩ : ByteArray).size = s.length:=mk_size s
 by_cases h0 : s = []
 · rw [if_pos h0] at hv
   injection hv with hv
   subst h0
   subst hv
   clear hz hm
   have he : (⟨#[]⟩ : ByteArray).toList.isEmpty = true:=empty_yes rfl
   go_enter Tryz.func146,Tryz.ntmps146
   go_wp2
   go_ret
   exact ⟨_,rfl,World.ownsRow_nil _ _ _ _,Below.refl _ _⟩
 · rw [if_neg h0] at hv
   have HSP:=Lib.hid (split_any s 58 w h32 hm)
   have hl0 : s.length ≠ 0:=fun e=>h0 (List.length_eq_zero_iff.1 e)
   have he:=empty_no (s:=(⟨s.toArray⟩ : ByteArray)) (by rw [hz];exact hl0)
   obtain ⟨ps,hps⟩ : ∃ ps,Rd.splitB 58 s = ps:=⟨_,rfl⟩
   rw [hps] at hv HSP
   obtain ⟨hvl,hva⟩:=Rd.allM_at hv
   have HVA:=Lib.hid hva
   have HVL:=Lib.hid hvl
   have hpn : ps.length ≤ 4294967281:=by have:=Rd.splitB_count 58 s;rw [hps] at this;omega
   have HZ:=Lib.hid hz
   clear hv hva hps h0 hm hvl hl0 hz
   have HSP2 : Hid (Calls Tryz.prog 144 #[.string ⟨s.toArray⟩,.string ⟨#[58]⟩] w _):=HSP.out
   clear HSP
   show Calls Tryz.prog 146 #[p,.string ⟨s.toArray⟩] w _
   generalize (⟨s.toArray⟩ : ByteArray) = t at *
   go_enter Tryz.func146,Tryz.ntmps146
   go_wp2_with (go_at_call 144;refine HSP2.out.mono ?_;rintro e w1 ⟨rfl,E1⟩;have HE1:=Lib.hid E1;clear E1)
   have hlt1 : w.heap.size < w1.heap.size:=by rw [HE1.out];simp
   have hpc : ∀ j (hj : j < ps.length),w1.cell? ⟨w.heap.size,j,none⟩ = some (sv (ps[j]'hj)):=fun j hj=>by
    rw [HE1.out,(Has.fresh w 9 (svs ps).toArray).cell]
    simp [svs,hj]
   have HPC:=Lib.hid hpc
   have HB1 : Hid (Below w.heap.size w w1):=by rw [Hid,HE1.out];exact (Below.refl _ _).alloc (Nat.le_refl _) _
   clear hpc HE1
   go_loopw [5,13] (fun v i wr => ∃ k : Nat,i = .int .i64 k ∧ k ≤ ps.length ∧ Hid (wr.ownsRow w1.heap.size 34 1 v k (u16s (vs.take k))) ∧ Hid (Below w1.heap.size w1 wr)) (fun _ i _=>ps.length - (intOf i).toNat)
   case atStart=>exact ⟨0,rfl,by omega,World.ownsRow_nil _ _ _ _,Below.refl _ _⟩
   case round =>
    obtain ⟨k,rfl,hk,HO,HB⟩:=hrel
    have hsz:=HB.out.size
    obtain ⟨ad,cp,hv⟩:=own_form HO.out
    subst hv
    by_cases hlt : k < ps.length
    · have hj2 : k < vs.length:=by rw [HVL.out];exact hlt
      have cp : wr.cell? ⟨w.heap.size,k,none⟩ = some (sv (ps[k]'hlt)):=(HB.out.cell (p:=⟨w.heap.size,k,none⟩) hlt1).trans (HPC.out k hlt)
      have HX:=Lib.hid (fun (W : World)=>rdHex_ok p (ps[k]'hlt) W (HVA.out k hlt hj2))
      have HSN:=Lib.hid (u16s_snoc vs k hj2)
      generalize ps[k]'hlt = pk at *
      generalize vs[k]'hj2 = vk at *
      go_wp2_with (first
       | (go_at_call 119;refine (HX.out _).mono ?_;rintro e w3 ⟨rfl,B3⟩;have HO3:=Lib.hid (own_below HO.out B3 (Nat.le_refl _));have HB3:=Lib.hid (HB.out.trans (B3.mono hsz));have hsz3:=B3.size;clear B3)
       | (at_builtin;refine wpList_append_own _ rfl (.tmp 17) (.tmp 21) _ rfl w1.heap.size 34 i0 _ 1 2 Tryz.underlying200 hi0 hz0 hz1 hz2 rfl (by decide) _ k (u16s (vs.take k)) rfl (HO3.out.alloc _) ⟨w3.heap.size,0,none⟩ 1 1 [.int .u16 vk] rfl rfl ?c1 ?c2 ?c3 ?c4 ?c5 (fun v' w4 hown1 hg1 _=>?_)))
      case c1=>exact cell_one_new _ _ _
      case c2=>simp [Value.oneCell']
      case c3=>unfold maxLen;omega
      case c4=>omega
      case c5=>simp;omega
      exact ⟨⟨k + 1,rfl,by omega,by rw [HSN.out];exact hown1,(HB3.out.alloc (by omega) _).grown hg1 (by simp;omega) (fun j hj=>(HO3.out.lt j hj).1)⟩,by simp [intOf];omega⟩
    · obtain rfl : k = ps.length:=by omega
      have hvt : vs.take ps.length = vs:=List.take_of_length_le (by rw [HVL.out];exact Nat.le_refl _)
      have HVT:=Lib.hid hvt
      clear hvt
      go_wp2
      go_ret
      exact ⟨_,rfl,own_to (own_mono HO.out (by omega)) HVL.out.symm (by rw [HVT.out]),HB1.out.trans (HB.out.mono (by omega))⟩
end Go.Proofs.YtekafhogiambaaaGreatDoor
namespace Go.Proofs.YtekafhogiambaaaGreatDoor
open Go.RowKit
theorem putText_new (s : List UInt8) (hs : s.length ≤ 255) (W : World) :
 Calls Tryz.prog 148 #[.slice none 0 0,sv s] W fun e w' => ∃ g,e = .returned (.tuple #[.slice (some ⟨g,0,none⟩) (s.length + 1) (s.length + 1),.int .i64 0]) ∧ Bs w' W.heap.size w'.heap.size (some ⟨g,0,none⟩) (UInt8.ofNat s.length :: s) ∧ Below W.heap.size W w':=by
 have hz : (⟨s.toArray⟩ : ByteArray).size = s.length:=mk_size s
 refine (putText_ok none [] 0 ⟨s.toArray⟩ W (Nat.le_refl _) (by simp) (by rw [hz];exact hs) 0 Bs.nil).mono ?_
 rintro e w' ⟨g,cp,rfl,O,B⟩
 rw [hz] at O ⊢
 have e1 : ([] : List UInt8).length + 1 + s.length = s.length + 1:=by simp;omega
 rw [e1] at O ⊢
 refine ⟨g,rfl,?_,B⟩
 have hb : bv ([] ++ Oc.beb 1 s.length ++ (⟨s.toArray⟩ : ByteArray).data.toList) = bv (UInt8.ofNat s.length :: s):=by
  congr 1
  simp [Oc.beb]
 rw [hb] at O
 exact Bs.of_own O
def wlen (w : World) (g : Nat) : Nat:=match w.cell? ⟨g,0,none⟩ with
 | some (.slice _ n _)=>n
 | _=>0
section
variable {g hi n : Nat} {o : ByteArray} {ws : List Rd.W2} {x : Rd.W2} {d : Rd.Dt} {w w' : World}
theorem St.front (h : St w g hi o ws d n) : ∃ A c,w.cell? ⟨g,0,none⟩ = some (.slice A ws.length c):=by
 obtain ⟨v,h1,⟨A,c,rfl,_⟩,_⟩:=h
 exact ⟨A,c,by rw [h1.cell];rfl⟩
theorem St.wlen (h : St w g hi o ws d n) : wlen w g = ws.length:=by
 obtain ⟨A,c,h⟩:=h.front
 unfold Proofs.YtekafhogiambaaaGreatDoor.wlen
 rw [h]
theorem St.keepG (h : St w g hi o ws d n) (hb : Below (g + 1) w w') : St w' g hi o ws d n:=by
 obtain ⟨v,h1,h2,h3,h4⟩:=h
 exact ⟨v,h1.below hb (by omega),h2.keep (hb.mono (by omega)),h3,h4.below (hb.mono (by omega))⟩
theorem Kb.ownRow {b : Nat} {w1 w2 : World} {row : Option Nat} (h : Kb g b w w1) (G : w1.grownBy w2 row) (hr : ∀ k,row = some k → b ≤ k) (hb : b ≤ w1.heap.size) : Kb g b w w2 :=
 h.trans ⟨G.os,G.tape,G.output,G.size,fun k hk _=>G.block k (by omega) (fun e=>by have:=hr k e.symm;omega)⟩
theorem St.cell2 (h : St w g hi o ws d n) : w.cell? ⟨g,2,none⟩ = some (sv d.raw):=by
 obtain ⟨v,h1⟩:=h.has
 rw [h1.cell];rfl
theorem St.free (h : St w g hi o ws d n) (i : Nat) : w.frozen? ⟨g,i,none⟩ = false:=by
 obtain ⟨v,h1⟩:=h.has
 exact h1.free i
theorem own_kb {B m : Nat} {v : Value} {xs : List Value} (h : w.ownsRow B 5 1 v m xs) (hk : Kb g w.heap.size w w') (hB : g < B) : w'.ownsRow B 5 1 v m xs:=by
 refine ⟨h.1,?_⟩
 rcases h.2 with hn | ⟨g',cap,cur,hv,hg,hh,rest⟩
 · exact .inl hn
 · exact .inr ⟨g',cap,cur,hv,hg,(hk.block g' (Array.getElem?_eq_some_iff.1 hh).1 (by omega)).trans hh,rest⟩
set_option maxHeartbeats 2000000 in
theorem rdTexts_ok (h : St w g hi o (x :: ws) d n) {r : List UInt8} (hr : Rd.textsR [] (x :: ws) = some r) :
 Calls Tryz.prog 124 #[.pointer (some ⟨g,0,none⟩)] w fun e w' => e = .returned (.tuple #[]) ∧ St w' g hi o [] { d with raw:=r } n ∧ Kb g w.heap.size w w':=by
 obtain ⟨i0,hi0,hz0,hz1,hz2⟩:=info_parts Tryz.infoByte
 have hgw:=h.lt
 have hfld : ∀ (W : World) (s : ByteArray) (b : Bool) (l k : Int),(Instr.field 69 (.agg #[.string s,.bool b,.int .i64 l,.int .i64 k]) 0).run Tryz.prog W = .ok (.string s) W:=fun _ _ _ _ _=>rfl
 have HS0:=Lib.hid h
 have HR0:=Lib.hid hr
 have HK0:=Lib.hid (Kb.refl g w.heap.size w)
 clear h hr
 go_enter Tryz.func124,Tryz.ntmps124
 go_wp2
 go_loopw [2] (fun v wr => ∃ (acc : List UInt8) (x : Rd.W2) (rest : List Rd.W2),acc.length ≤ 65535 ∧ Hid (Rd.textsR acc (x :: rest) = some r) ∧ Hid (wr.ownsRow w.heap.size 5 1 v acc.length (bv acc)) ∧ Hid (St wr g hi o (x :: rest) d n) ∧ Hid (Kb g w.heap.size w wr)) (fun _ wr=>wlen wr g)
 case atStart=>exact ⟨[],x,ws,by simp,HR0.out,World.ownsRow_nil _ _ _ _,HS0.out,HK0.out⟩
 case round =>
  obtain ⟨acc,x,rest,hacc,HR,HO,HS,HK⟩:=hrel
  have hsz:=HK.out.size
  have hl:=HS.out.one
  have hr:=HR.out
  rw [Rd.textsR] at hr
  cases hu : Nm.unesc x.1 with
  | none=>rw [hu] at hr;cases hr
  | some l =>
   rw [hu] at hr
   by_cases hb : 255 < l.length ∨ 65535 < acc.length + (1 + l.length)
   · simp only [hb,if_true] at hr
     cases hr
   · simp only [hb,if_false] at hr
     have hb1 : l.length ≤ 255:=by omega
     have hb2 : acc.length + (l.length + 1) ≤ 65535:=by omega
     have hb3 : decide ((65535 : Int) < (acc.length : Int) + ((l.length : Int) + 1)) = false:=by simp;omega
     have HR2:=Lib.hid hr
     have HB:=Lib.hid (fun (W : World) (hW : Lay W)=>Bytes_yes x.1 l W hW hl hu)
     have HPT:=Lib.hid (fun (W : World)=>putText_new l hb1 W)
     have HN:=Lib.hid (rdNext_any HS.out)
     have HW:=Lib.hid HS.out.wlen
     obtain ⟨ad,cp,hv⟩:=own_form HO.out
     subst hv
     clear hr hb hu hl HR HS
     cases rest with
     | nil =>
      have hrr : acc ++ UInt8.ofNat l.length :: l = r:=by
       have:=HR2.out
       rw [Rd.textsR] at this
       injection this
      have HRR:=Lib.hid hrr
      clear hrr
      go_wp2_with (first
       | (go_at_call 115;refine HN.out.mono ?_;rintro e w1 ⟨l1,k1,rfl,S1,K1⟩;have HS1:=Lib.hid S1;have HK1:=Lib.hid (HK.out.trans (K1.mono hsz));have HO1:=Lib.hid (own_kb HO.out K1 hgw);have HL1:=Lib.hid S1.gl.1;clear S1 K1)
       | (go_at_call 134;refine (HB.out _ HL1.out).mono ?_;rintro e w2 ⟨rfl,B2⟩;have HB2:=Lib.hid B2;clear B2)
       | (go_at_call 148;refine (HPT.out _).mono ?_;rintro e w3 ⟨g3,rfl,BS3,B3⟩;have HBS3:=Lib.hid BS3;have HB3:=Lib.hid B3;have HO3:=Lib.hid (own_below (own_below HO1.out HB2.out (Nat.le_refl _)) B3 (Nat.le_refl _));have hsz3 : w.heap.size ≤ w3.heap.size:=Nat.le_trans HK1.out.size (Nat.le_trans HB2.out.size B3.size);have HS3:=Lib.hid ((HS1.out.keep HB2.out).keep B3);have HK3:=Lib.hid ((HK1.out.onB HB2.out).onB B3);clear BS3 B3)
       | (at_builtin;refine wpList_append_bs rfl (.tmp 34) (.tmp 35) 51 rfl w.heap.size 5 i0 _ Tryz.underlying51 hi0 hz0 hz1 hz2 rfl _ acc.length (bv acc) rfl HO3.out _ _ (some ⟨g3,0,none⟩) (l.length + 1) (UInt8.ofNat l.length :: l) rfl HBS3.out (fun e=>by cases e) (by simp;omega) hsz3 ?_;intro v4 w4 O4 G4;have B4:=below_self G4 (B:=g + 1) (by omega) (fun k hk=>by have:=(HO3.out.lt k hk).1;omega);have HS4:=Lib.hid (HS3.out.keepG B4);obtain ⟨A4,C4,c4⟩:=HS4.out.front;have HO4:=Lib.hid O4;have HK4:=Lib.hid (HK3.out.ownRow G4 (fun k hk=>(HO3.out.lt k hk).1) hsz3);have HO4:=Lib.hid (own_to HO4.out (m:=(acc ++ UInt8.ofNat l.length :: l).length) (ys:=bv (acc ++ UInt8.ofNat l.length :: l)) (by simp) (by rw [bv_append]));have hcv:=run_convert_own w4 (P:=Tryz.prog) 51 9 5 Tryz.underlying51 Tryz.underlying5 Tryz.underlying9 w.heap.size _ v4 (acc ++ UInt8.ofNat l.length :: l) HO4.out;have c2 : w4.cell? ⟨g,2,none⟩ = some (sv d.raw):=HS4.out.cell2;have f2:=HS4.out.free 2;clear O4 G4 B4))
      go_end0
      exact ⟨rfl,by rw [← HRR.out];exact HS4.out.put (i:=2) (u:=sv (acc ++ UInt8.ofNat l.length :: l)) rfl (fun v=>rfl),HK4.out.set 2 _⟩
     | cons y rest =>
      go_wp2_with (first
       | (go_at_call 115;refine HN.out.mono ?_;rintro e w1 ⟨l1,k1,rfl,S1,K1⟩;have HS1:=Lib.hid S1;have HK1:=Lib.hid (HK.out.trans (K1.mono hsz));have HO1:=Lib.hid (own_kb HO.out K1 hgw);have HL1:=Lib.hid S1.gl.1;clear S1 K1)
       | (go_at_call 134;refine (HB.out _ HL1.out).mono ?_;rintro e w2 ⟨rfl,B2⟩;have HB2:=Lib.hid B2;clear B2)
       | (go_at_call 148;refine (HPT.out _).mono ?_;rintro e w3 ⟨g3,rfl,BS3,B3⟩;have HBS3:=Lib.hid BS3;have HB3:=Lib.hid B3;have HO3:=Lib.hid (own_below (own_below HO1.out HB2.out (Nat.le_refl _)) B3 (Nat.le_refl _));have hsz3 : w.heap.size ≤ w3.heap.size:=Nat.le_trans HK1.out.size (Nat.le_trans HB2.out.size B3.size);have HS3:=Lib.hid ((HS1.out.keep HB2.out).keep B3);have HK3:=Lib.hid ((HK1.out.onB HB2.out).onB B3);clear BS3 B3)
       | (at_builtin;refine wpList_append_bs rfl (.tmp 34) (.tmp 35) 51 rfl w.heap.size 5 i0 _ Tryz.underlying51 hi0 hz0 hz1 hz2 rfl _ acc.length (bv acc) rfl HO3.out _ _ (some ⟨g3,0,none⟩) (l.length + 1) (UInt8.ofNat l.length :: l) rfl HBS3.out (fun e=>by cases e) (by simp;omega) hsz3 ?_;intro v4 w4 O4 G4;have B4:=below_self G4 (B:=g + 1) (by omega) (fun k hk=>by have:=(HO3.out.lt k hk).1;omega);have HS4:=Lib.hid (HS3.out.keepG B4);obtain ⟨A4,C4,c4⟩:=HS4.out.front;have HO4:=Lib.hid O4;have HK4:=Lib.hid (HK3.out.ownRow G4 (fun k hk=>(HO3.out.lt k hk).1) hsz3);have HO4:=Lib.hid (own_to HO4.out (m:=(acc ++ UInt8.ofNat l.length :: l).length) (ys:=bv (acc ++ UInt8.ofNat l.length :: l)) (by simp) (by rw [bv_append]));have hcv:=run_convert_own w4 (P:=Tryz.prog) 51 9 5 Tryz.underlying51 Tryz.underlying5 Tryz.underlying9 w.heap.size _ v4 (acc ++ UInt8.ofNat l.length :: l) HO4.out;have c2 : w4.cell? ⟨g,2,none⟩ = some (sv d.raw):=HS4.out.cell2;have f2:=HS4.out.free 2;clear O4 G4 B4))
      exact ⟨⟨acc ++ UInt8.ofNat l.length :: l,y,rest,by simp;omega,HR2.out,HO4.out,HS4.out,HK4.out⟩,by rw [HS4.out.wlen,HW.out];simp⟩
end
end Go.Proofs.YtekafhogiambaaaGreatDoor
namespace Go.Proofs.YtekafhogiambaaaGreatDoor
open Go.RowKit
theorem cut2_any (s : List UInt8) (w : World) (hs : s.length < 4294967281) (hm : ∃ m : Int,w.cell? ⟨2,0,none⟩ = some (.int .i64 m)) :
 Calls Tryz.prog 145 #[sv s,.string ⟨#[58,58]⟩] w fun e w' => e = .returned (.tuple #[sv (Rd.cut2 s).1,sv (Rd.cut2 s).2.1,.bool (Rd.cut2 s).2.2]) ∧ ∃ n,w' = w.drewN n:=by
 obtain ⟨m,hm⟩:=hm
 have H:=Tryz.strings_Cut ⟨s.toArray⟩ ⟨#[58,58]⟩ m w (by simpa [ByteArray.size] using hs) hm
 have e : Lib.cut (⟨s.toArray⟩ : ByteArray).data.toList (⟨#[58,58]⟩ : ByteArray).data.toList = Rd.cut2 s:=Rd.cut2_lib s
 rw [e] at H
 exact H
theorem Rd.cut2_len : ∀ s : List UInt8,(Rd.cut2 s).1.length ≤ s.length ∧ (Rd.cut2 s).2.1.length ≤ s.length
 | []=>⟨Nat.le_refl _,Nat.le_refl _⟩
 | [c]=>by simp [Rd.cut2]
 | c :: d :: r=>by
  have:=Rd.cut2_len (d :: r)
  rw [Rd.cut2]
  split
  · simp;omega
  · simp at this ⊢
    omega
theorem own_ad {B n cp : Nat} {w : World} {e : TypeId} {A : Option Addr} {xs : List Value} (h : w.ownsRow B e 1 (.slice A n cp) n xs) (h0 : 0 < xs.length) : ∃ ad,A = some ad ∧ ∀ j v,xs[j]? = some v → w.cell? (ad.add j) = some v:=by
 rcases h.2 with ⟨hv,h00⟩ | ⟨g,cap,cur,hv,_⟩
 · have:=h.1;omega
 · injection hv with h1 h2 h3
   subst h1
   exact ⟨_,rfl,fun j v hj=>h.cells (g:=g) rfl j v hj⟩
def z8 : List Value:=List.replicate 8 (.int .u16 0)
theorem splice_two (a b : List Nat) (h : a.length + b.length ≤ 8) : splice (splice z8 0 (u16s a)) (8 - b.length) (u16s b) = u16s (a ++ List.replicate (8 - (a.length + b.length)) 0 ++ b):=by
 have ha : (u16s a).length = a.length:=by simp [u16s]
 have hb : (u16s b).length = b.length:=by simp [u16s]
 have e1 : splice z8 0 (u16s a) = u16s (a ++ List.replicate (8 - a.length) 0):=by
  unfold splice z8 u16s
  rw [List.take_zero,List.nil_append,List.map_append,List.drop_replicate,List.map_replicate,List.length_map,Nat.zero_add]
  rfl
 rw [e1]
 have e2 : a ++ List.replicate (8 - a.length) 0 = (a ++ List.replicate (8 - (a.length + b.length)) 0) ++ List.replicate b.length 0:=by
  rw [List.append_assoc,List.replicate_append_replicate]
  congr 2
  omega
 have hl : (a ++ List.replicate (8 - (a.length + b.length)) 0).length = 8 - b.length:=by simp;omega
 rw [e2]
 generalize a ++ List.replicate (8 - (a.length + b.length)) 0 = c at *
 unfold splice u16s
 rw [← hl,List.map_append,List.map_append,List.length_map,List.take_left' (by simp),List.drop_eq_nil_of_le (by simp),List.append_nil]
set_option maxRecDepth 20000 in
theorem arr8_run (a b c d e f g h : Int) (k : Nat) (hk : k < 8) (W : World) : (Instr.index 202 (.agg #[.int .u16 a,.int .u16 b,.int .u16 c,.int .u16 d,.int .u16 e,.int .u16 f,.int .u16 g,.int .u16 h]) (.int .i64 (k : Nat))).run Tryz.prog W = .ok (([.int .u16 a,.int .u16 b,.int .u16 c,.int .u16 d,.int .u16 e,.int .u16 f,.int .u16 g,.int .u16 h] : List Value)[k]) W:=by
 rcases (by omega : k = 0 ∨ k = 1 ∨ k = 2 ∨ k = 3 ∨ k = 4 ∨ k = 5 ∨ k = 6 ∨ k = 7) with rfl | rfl | rfl | rfl | rfl | rfl | rfl | rfl <;> rfl
set_option maxRecDepth 20000 in
theorem arr8_at {vs : List Nat} (h8 : vs.length = 8) {k : Nat} (hk : k < vs.length) (W : World) : (Instr.index 202 (.agg (u16s vs).toArray) (.int .i64 (k : Nat))).run Tryz.prog W = .ok (.int .u16 ((vs[k]'hk : Nat) : Int)) W:=by
 match vs,h8,hk with
 | [a,b,c,d,e,f,g,h],_,hk =>
  refine (arr8_run a b c d e f g h k hk W).trans ?_
  have h' : k < 8:=hk
  rcases (by omega : k = 0 ∨ k = 1 ∨ k = 2 ∨ k = 3 ∨ k = 4 ∨ k = 5 ∨ k = 6 ∨ k = 7) with rfl | rfl | rfl | rfl | rfl | rfl | rfl | rfl <;> rfl
theorem slice8 (G nb : Nat) (hn : nb ≤ 8) : ∃ p : Addr,(∀ W,(Instr.sliceAt 202 (.pointer (some ⟨G,0,none⟩)) (some (.int .i64 (8 - (nb : Int)))) none none).run Tryz.prog W = .ok (.slice (some p) nb nb) W) ∧ (0 < nb → p = ⟨G,8 - nb,none⟩):=by
 have hal : Tryz.prog.arrayLen 202 = 8:=by kernel_rfl
 by_cases h0 : nb = 0
 · subst h0
   refine ⟨⟨G,0,none⟩,fun W=>?_,fun h=>absurd h (by omega)⟩
   rw [run_sliceAt_array_l W 202 ⟨G,0,none⟩ (by kernel_rfl) .i64 _ (by omega) (by rw [hal];omega),hal]
   go_simp
 · refine ⟨⟨G,8 - nb,none⟩,fun W=>?_,fun _=>rfl⟩
   rcases (by omega : nb = 1 ∨ nb = 2 ∨ nb = 3 ∨ nb = 4 ∨ nb = 5 ∨ nb = 6 ∨ nb = 7 ∨ nb = 8) with rfl | rfl | rfl | rfl | rfl | rfl | rfl | rfl
   all_goals
    rw [run_sliceAt_array_l W 202 ⟨G,0,none⟩ (by kernel_rfl) .i64 _ (by omega) (by rw [hal];omega),hal]
    go_simp
theorem put16_new (v : Nat) (hv : v < 65536) (W : World) :
 Calls Tryz.prog 147 #[.slice none 0 0,.int .u16 v] W fun e w' => ∃ g,e = .returned (.slice (some ⟨g,0,none⟩) 2 2) ∧ Bs w' W.heap.size w'.heap.size (some ⟨g,0,none⟩) [UInt8.ofNat (v / 256),UInt8.ofNat (v % 256)] ∧ Below W.heap.size W w':=by
 refine (put_u16 none [] 0 v W (Nat.le_refl _) (by simp) hv 0 Bs.nil).mono ?_
 rintro e w' ⟨g,cp,rfl,O,B⟩
 refine ⟨g,rfl,?_,B⟩
 have hb : ([] ++ Oc.beb 2 v : List UInt8) = [UInt8.ofNat (v / 256),UInt8.ofNat (v % 256)]:=by
  have e : UInt8.ofNat v = UInt8.ofNat (v % 256):=UInt8.toNat_inj.1 (by simp)
  simp [Oc.beb,← e]
 rw [hb] at O
 exact Bs.of_own O
def gby (vs : List Nat) : List UInt8:=vs.flatMap fun g => [UInt8.ofNat (g / 256),UInt8.ofNat (g % 256)]
theorem gby_snoc (vs : List Nat) (k : Nat) (h : k < vs.length) : gby (vs.take (k + 1)) = gby (vs.take k) ++ [UInt8.ofNat ((vs[k]'h) / 256),UInt8.ofNat ((vs[k]'h) % 256)]:=by
 rw [List.take_succ_eq_append_getElem h]
 unfold gby
 rw [List.flatMap_append]
 simp
theorem Rd.hexR_lt {s : List UInt8} {v : Nat} (h : Rd.hexR s = some v) : v < 65536:=by
 unfold Rd.hexR at h
 by_cases hb : s.length = 0 ∨ 4 < s.length
 · rw [if_pos hb] at h;cases h
 rw [if_neg hb,Rd.hexV_hxa] at h
 have:=(Rd.hxa_le h).2
 have h16 : 16 ^ s.length ≤ 16 ^ 4:=Nat.pow_le_pow_right (by decide) (by omega)
 omega
theorem Rd.groupsR_lt {s : List UInt8} {vs : List Nat} (h : Rd.groupsR s = some vs) : ∀ v ∈ vs,v < 65536:=by
 unfold Rd.groupsR at h
 by_cases h0 : s = []
 · rw [if_pos h0] at h
   injection h with h
   subst h
   intro v hv;cases hv
 · rw [if_neg h0] at h
   obtain ⟨e1,e2⟩:=Rd.allM_at h
   intro v hv
   obtain ⟨j,hj,rfl⟩:=List.getElem_of_mem hv
   exact Rd.hexR_lt (e2 j (by omega) hj)
section
variable {g hi n : Nat} {o : ByteArray} {ws : List Rd.W2} {x : Rd.W2} {d : Rd.Dt} {w : World}
set_option maxHeartbeats 2000000 in
theorem rdEight_ok (h : St w g hi o (x :: ws) d n) (hx : x.2 = false) (h32 : x.1.length < 4294967281) {r : List UInt8} (hr : Rd.addr16 x.1 = some r) :
 Calls Tryz.prog 123 #[.pointer (some ⟨g,0,none⟩)] w fun e w' => e = .returned (.tuple #[]) ∧ St w' g hi o ws { d with raw:=r } n ∧ Kb g w.heap.size w w':=by
 obtain ⟨i0,hi0,hz0,hz1,hz2⟩:=info_parts Tryz.infoByte
 have hgw:=h.lt
 have hi8n : (Tryz.prog.info? 202).map (·.size) = some 8:=by kernel_rfl
 have HP:=Lib.hid (rdPlain_any h hx)
 have HCT:=Lib.hid (fun (W : World) hm=>cut2_any x.1 W h32 hm)
 have hcl:=Rd.cut2_len x.1
 clear h
 obtain ⟨F,hF⟩ : ∃ F,(Rd.cut2 x.1).1 = F:=⟨_,rfl⟩
 obtain ⟨T,hT⟩ : ∃ T,(Rd.cut2 x.1).2.1 = T:=⟨_,rfl⟩
 obtain ⟨c,hc⟩ : ∃ c,(Rd.cut2 x.1).2.2 = c:=⟨_,rfl⟩
 unfold Rd.addr16 at hr
 rw [hF,hT,hc] at hr
 rw [hF,hT,hc] at HCT
 rw [hF,hT] at hcl
 clear hF hT hc
 cases ha : Rd.groupsR F with
 | none=>rw [ha] at hr;cases hr
 | some a =>
  cases hb : Rd.groupsR T with
  | none=>rw [ha,hb] at hr;cases hr
  | some b =>
   rw [ha,hb] at hr
   by_cases hno : (c = true ∧ 8 ≤ a.length + b.length) ∨ (c = false ∧ a.length + b.length ≠ 8)
   · simp only [hno,if_true] at hr;cases hr
   · simp only [hno,if_false] at hr
     injection hr with hr
     have hab : a.length + b.length ≤ 8:=by
      cases c with
      | true=>simp at hno;omega
      | false=>simp at hno;omega
     have t1 : c = true → decide ((8 : Int) ≤ (a.length : Int) + (b.length : Int)) = false:=fun e=>by simp [e] at hno;simp;omega
     have t2 : c = false → ((a.length : Int) + (b.length : Int) != 8) = false:=fun e=>by simp [e] at hno;simp;omega
     have T1:=Lib.hid t1
     have T2:=Lib.hid t2
     clear t1 t2
     have HA:=Lib.hid (fun (p : Value) (W : World) hm=>rdGroups_ok p F W (by omega) hm ha)
     have HB:=Lib.hid (fun (p : Value) (W : World) hm=>rdGroups_ok p T W (by omega) hm hb)
     obtain ⟨vs,hvs⟩ : ∃ vs,a ++ List.replicate (8 - (a.length + b.length)) 0 ++ b = vs:=⟨_,rfl⟩
     have hv8 : vs.length = 8:=by rw [← hvs];simp;omega
     have hlt : ∀ v ∈ vs,v < 65536:=fun v hv=>by
      rw [← hvs] at hv
      rcases List.mem_append.1 hv with hv | hv
      · rcases List.mem_append.1 hv with hv | hv
        · exact Rd.groupsR_lt ha v hv
        · rw [(List.mem_replicate.1 hv).2];decide
      · exact Rd.groupsR_lt hb v hv
     have HLT:=Lib.hid hlt
     clear hlt
     have hsp:=splice_two a b hab
     rw [hvs] at hr hsp
     have HSP:=Lib.hid hsp
     have HR:=Lib.hid hr
     have HV8:=Lib.hid hv8
     clear hr hno ha hb hvs hsp hv8
     go_enter Tryz.func123,Tryz.ntmps123
     go_upto_region 3 with (first
      | (go_at_call 117;refine HP.out.mono ?_;rintro e w1 ⟨rfl,S1,K1⟩;have HS:=Lib.hid S1;have HK:=Lib.hid K1;clear S1 K1)
      | (go_at_call 145;refine (HCT.out _ HS.out.ml).mono ?_;rintro e w2 ⟨rfl,nd,E2⟩;have B2 : Below w1.heap.size w1 w2:=(by rw [E2];exact below_drewN (Below.refl _ _) _);have HB2:=Lib.hid B2;have HS2:=Lib.hid (HS.out.keep B2);clear E2 B2)
      | (go_at_call 146;(with_reducible refine (HA.out _ _ HS2.out.ml).mono ?_);rintro e w3 ⟨v3,rfl,O3,B3⟩;have HO3:=Lib.hid O3;have HB3:=Lib.hid B3;have HS3:=Lib.hid (HS2.out.keep B3);clear O3 B3)
      | (go_at_call 146;(with_reducible refine (HB.out _ _ HS3.out.ml).mono ?_);rintro e w4 ⟨v4,rfl,O4,B4⟩;have HO4:=Lib.hid O4;have HB4:=Lib.hid B4;have HS4:=Lib.hid (HS3.out.keep B4);clear O4 B4))
     have hsz1:=HB2.out.size
     have hsz2:=HB3.out.size
     have hsz3:=HB4.out.size
     have O3:=own_below HO3.out HB4.out (Nat.le_refl _)
     have O4:=HO4.out
     obtain ⟨Aa,ca,rfl⟩:=own_form O3
     obtain ⟨Ab,cb,rfl⟩:=own_form O4
     have HB0:=Lib.hid ((Below.refl w4.heap.size w4).alloc (Nat.le_refl _) (.cells #[.int .u16 0,.int .u16 0,.int .u16 0,.int .u16 0,.int .u16 0,.int .u16 0,.int .u16 0,.int .u16 0] 202))
     have HH0 : Hid (Has (w4.alloc (.cells #[.int .u16 0,.int .u16 0,.int .u16 0,.int .u16 0,.int .u16 0,.int .u16 0,.int .u16 0,.int .u16 0] 202)) w4.heap.size 202 z8.toArray):=Has.fresh w4 _ _
     have hla : (u16s a).length = a.length:=by simp [u16s]
     have hlb : (u16s b).length = b.length:=by simp [u16s]
     have hua : (u16s a).length = Nat.min a.length 8:=by rw [hla];exact (Nat.min_eq_left (by omega)).symm
     have hub : (u16s b).length = Nat.min b.length b.length:=by rw [hlb];exact (Nat.min_self _).symm
     have HUA:=Lib.hid hua
     have HUB:=Lib.hid hub
     have HLA:=Lib.hid hla
     have HLB:=Lib.hid hlb
     have h1a : ∀ v ∈ u16s a,v.oneCell' = true:=fun v hv=>by simp [u16s] at hv;obtain ⟨_,_,rfl⟩:=hv;rfl
     have h1b : ∀ v ∈ u16s b,v.oneCell' = true:=fun v hv=>by simp [u16s] at hv;obtain ⟨_,_,rfl⟩:=hv;rfl
     have H1A:=Lib.hid h1a
     have H1B:=Lib.hid h1b
     have HAD:=Lib.hid (fun (W : World) (hb : Below w4.heap.size w4 W) (h0 : 0 < (u16s a).length)=>own_ad (own_below O3 hb (Nat.le_refl _)) h0)
     have HBD:=Lib.hid (fun (W : World) (hb : Below w4.heap.size w4 W) (h0 : 0 < (u16s b).length)=>own_ad (own_below O4 hb (Nat.le_refl _)) h0)
     obtain ⟨p8,hsl,hp8⟩:=slice8 w4.heap.size b.length (by omega)
     have HP8:=Lib.hid hp8
     clear hua hub hla hlb h1a h1b O3 O4 hp8
     cases c
     all_goals
      first | have tt:=T1.out rfl | have tt:=T2.out rfl
      clear T1 T2
      go_upto_region 9 with (first
       | (refine wpList_copy_splice rfl (.tmp 45) (.tmp 46) _ _ rfl 34 Tryz.underlying200 (by kernel_rfl) _ _ _ _ _ _ rfl rfl w4.heap.size 0 z8 202 HH0.out (u16s a) HUA.out (fun h0=>⟨rfl,HAD.out _ HB0.out h0⟩) (by rw [HLA.out];simp [z8];omega) H1A.out w4.heap.size w4 HB0.out (Nat.le_refl _) ?_;intro w5 H5 B5;have HB5:=Lib.hid B5;clear B5)
       | (refine wpList_copy_splice rfl (.tmp 51) (.tmp 52) _ _ rfl 34 Tryz.underlying200 (by kernel_rfl) _ _ _ _ _ _ rfl rfl w4.heap.size (8 - b.length) (splice z8 0 (u16s a)) 202 H5.out (u16s b) HUB.out (fun h0=>⟨by rw [HP8.out (by rw [HLB.out] at h0;exact h0)],HBD.out _ HB5.out h0⟩) (by rw [length_splice _ _ _ (by rw [HLA.out];simp [z8];omega),HLB.out];simp [z8];omega) H1B.out w4.heap.size w4 HB5.out (Nat.le_refl _) ?_;intro w6 H6 B6;have HB6:=Lib.hid B6;clear B6))
      have h6 : w6.heap[w4.heap.size]? = some (.cells (u16s vs).toArray 202 (0,0)):=by rw [← HSP.out];exact H6.out
      obtain ⟨cs8,hcs8⟩ : ∃ c,(u16s vs).toArray = c:=⟨_,rfl⟩
      have hix : ∀ k (hk : k < vs.length) (W : World),(Instr.index 202 (.agg cs8) (.int .i64 (k : Nat))).run Tryz.prog W = .ok (.int .u16 ((vs[k]'hk : Nat) : Int)) W:=fun k hk W=>by rw [← hcs8];exact arr8_at HV8.out hk W
      have HIX:=Lib.hid hix
      have hi8 : (Tryz.prog.info? 202).map (·.size) = some cs8.size:=by
       have : cs8.size = 8:=by rw [← hcs8];simp [u16s,HV8.out]
       rw [this]
       exact hi8n
      have HI8:=Lib.hid hi8
      rw [hcs8] at h6
      have H6':=Lib.hid h6
      have hB16:=HB2.out.trans ((HB3.out.trans ((HB4.out.trans (HB6.out.mono (by omega))).mono (by omega))).mono (by omega))
      have HS6:=Lib.hid (HS.out.keep hB16)
      have HK6:=Lib.hid (HK.out.onB hB16)
      have hgw6 : w.heap.size ≤ w6.heap.size:=HK6.out.size
      clear h6 hcs8 hix hi8 H6 HH0 HB5 H5 hB16 hsl HP8 HAD HBD tt
      go_wp2_with (refine wpList_load_row rfl 202 (.tmp 7) rfl w4.heap.size rfl 202 cs8 (0,0) _ H6'.out Tryz.underlying202 rfl HI8.out ?_)
      go_loopw [9,55] (fun v i wr => ∃ k : Nat,i = .int .i64 k ∧ k ≤ 8 ∧ Hid (wr.ownsRow w6.heap.size 5 1 v (2 * k) (bv (gby (vs.take k)))) ∧ Hid (Below w6.heap.size w6 wr)) (fun _ i _=>8 - (intOf i).toNat)
      case atStart=>exact ⟨0,rfl,by omega,World.ownsRow_nil _ _ _ _,Below.refl _ _⟩
      case round =>
       obtain ⟨k,rfl,hk,HO,HB⟩:=hrel
       have hsz:=HB.out.size
       by_cases hlt : k < 8
       · have hj : k < vs.length:=by rw [HV8.out];exact hlt
         have hidx:=fun W=>HIX.out k hj W
         have hvk:=HLT.out _ (List.getElem_mem hj)
         have HG:=Lib.hid (gby_snoc vs k hj)
         generalize vs[k]'hj = vk at *
         have HPT:=Lib.hid (fun W=>put16_new vk hvk W)
         go_wp2_with (first
          | (go_at_call 147;refine (HPT.out _).mono ?_;rintro e w7 ⟨g7,rfl,BS7,B7⟩;have HBS7:=Lib.hid BS7;have HO7:=Lib.hid (own_below HO.out B7 (Nat.le_refl _));have HB7:=Lib.hid (HB.out.trans (B7.mono hsz));have hsz7:=HB7.out.size;clear BS7 B7)
          | (at_builtin;refine wpList_append_bs rfl (.tmp 58) (.tmp 60) 51 rfl w6.heap.size 5 i0 _ Tryz.underlying51 hi0 hz0 hz1 hz2 rfl _ (2 * k) (bv (gby (vs.take k))) rfl HO7.out _ _ (some ⟨g7,0,none⟩) 2 [UInt8.ofNat (vk / 256),UInt8.ofNat (vk % 256)] rfl HBS7.out (fun e=>by cases e) (by simp;omega) hsz7 ?_;intro v8 w8 O8 G8;have HB8:=Lib.hid (HB7.out.grown G8 hsz7 (fun j hj=>(HO7.out.lt j hj).1));have HO8:=Lib.hid (own_to O8 (m:=2 * (k + 1)) (ys:=bv (gby (vs.take (k + 1)))) (by simp;omega) (by rw [HG.out,bv_append]));clear O8 G8))
         exact ⟨⟨k + 1,rfl,by omega,HO8.out,HB8.out⟩,by simp [intOf];omega⟩
       · obtain rfl : k = 8:=by omega
         have hvt : vs.take 8 = vs:=List.take_of_length_le (by rw [HV8.out];exact Nat.le_refl _)
         have hO:=HO.out
         rw [hvt] at hO
         have hcv:=run_convert_own wr (P:=Tryz.prog) 51 9 5 Tryz.underlying51 Tryz.underlying5 Tryz.underlying9 w6.heap.size _ _ (gby vs) hO
         have hrr : gby vs = r:=HR.out
         rw [hrr] at hcv
         have HSW:=Lib.hid (HS6.out.keep HB.out)
         have HKW:=Lib.hid (HK6.out.onB HB.out)
         have c2:=HSW.out.cell2
         have f2:=HSW.out.free 2
         clear hO hvt hrr
         go_wp2
         go_end0
         exact ⟨rfl,HSW.out.put (i:=2) (u:=sv r) rfl (fun v=>rfl),HKW.out.set 2 _⟩
end
end Go.Proofs.YtekafhogiambaaaGreatDoor
