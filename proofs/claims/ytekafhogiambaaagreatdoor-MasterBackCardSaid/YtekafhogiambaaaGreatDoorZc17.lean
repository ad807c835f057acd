/- Texts of the proofs, merged. -/
import Derived.Test.YtekafhogiambaaaGreatDoorZc16
import Derived.Test.YtekafhogiambaaaGreatDoorZc7
import Derived.Test.YtekafhogiambaaaGreatDoorZc1
import Derived.Test.YtekafhogiambaaaGreatDoorZc2
import Derived.Test.YtekafhogiambaaaGreatDoorZc9
import Derived.Laws.AppendOwnNone
import Derived.Test.YtekafhogiambaaaGreatDoorZc13
import Derived.OrdersHeld
import Derived.Deep.RegionHeld
set_option maxRecDepth 100000
namespace Go.Proofs.YtekafhogiambaaaGreatDoor
open Go.RowKit
def rdF : Nat → FuncId
 | 0=>121
 | 1=>122
 | 2=>123
 | 3=>124
 | 4=>118
 | 5=>125
 | 6=>125
 | 7=>126
 | 8=>127
 | _=>128
theorem pass_any (p : Value) (w : World) : Calls Tryz.prog 121 #[p] w fun e w' => e = .returned (.tuple #[]) ∧ w = w':=by
 go_enter Tryz.func121,Tryz.ntmps121
 go_wp2
 go_end0
 exact ⟨rfl,rfl⟩
theorem Rd.plainW_some {ws : List Rd.W2} {y : List UInt8 × List Rd.W2} (h : Rd.plainW ws = some y) : ∃ x rest,ws = x :: rest ∧ x.2 = false ∧ y = (x.1,rest):=by
 cases ws with
 | nil=>cases h
 | cons x r =>
  rw [Rd.plainW] at h
  cases hx : x.2 with
  | true=>rw [hx] at h;cases h
  | false =>
   rw [hx] at h
   injection h with h
   exact ⟨x,r,rfl,hx,h.symm⟩
theorem Rd.bind_some' {α β : Type} {o : Option α} {f : α → Option β} {b : β} (h : o.bind f = some b) : ∃ a,o = some a ∧ f a = some b:=by
 cases o with
 | none=>cases h
 | some a=>exact ⟨a,rfl,h⟩
theorem Rd.map_some' {α β : Type} {o : Option α} {f : α → β} {b : β} (h : o.map f = some b) : ∃ a,o = some a ∧ f a = b:=by
 cases o with
 | none=>cases h
 | some a=>injection h with h;exact ⟨a,rfl,h⟩
section
variable {g hi n p : Nat} {o : ByteArray} {ws : List Rd.W2} {d : Rd.Dt} {w : World} {s' : Rd.RS}
theorem part_ok (h : St w g hi o ws d n) (hp : p ≤ 9) (hr : Rd.rdP o.data.toList p (ws,d,n) = some s') (hn : p = 8 ∨ p = 9 → n < 5) (h32 : ∀ x ∈ ws,x.1.length < 4294967281) (ho : o.size ≤ 140737488355328) :
 (Calls Tryz.prog (rdF p) #[.pointer (some ⟨g,0,none⟩)] w fun e w' => e = .returned (.tuple #[]) ∧ St w' g hi o s'.1 s'.2.1 s'.2.2 ∧ Kb g w.heap.size w w') ∧ (∀ x ∈ s'.1,x ∈ ws) ∧ s'.2.2 = n + (if p = 8 ∨ p = 9 then 1 else 0):=by
 unfold Rd.rdP at hr
 by_cases h0 : p = 0
 · subst h0
   injection hr with hr
   subst hr
   exact ⟨(pass_any _ w).mono fun e w' ⟨he,hw⟩=>⟨he,hw ▸ h,hw ▸ Kb.refl _ _ _⟩,fun x hx=>hx,rfl⟩
 rw [if_neg h0] at hr
 by_cases h1 : p = 1
 · subst h1
   rw [if_pos rfl] at hr
   obtain ⟨y,hy,hr⟩:=Rd.bind_some' hr
   obtain ⟨x,rest,rfl,hx,rfl⟩:=Rd.plainW_some hy
   obtain ⟨r,hq,rfl⟩:=Rd.map_some' hr
   exact ⟨rdFour_ok h hx (h32 x (by simp)) hq,fun x hx=>by simp [hx],rfl⟩
 rw [if_neg h1] at hr
 by_cases h2 : p = 2
 · subst h2
   rw [if_pos rfl] at hr
   obtain ⟨y,hy,hr⟩:=Rd.bind_some' hr
   obtain ⟨x,rest,rfl,hx,rfl⟩:=Rd.plainW_some hy
   obtain ⟨r,hq,rfl⟩:=Rd.map_some' hr
   exact ⟨rdEight_ok h hx (h32 x (by simp)) hq,fun x hx=>by simp [hx],rfl⟩
 rw [if_neg h2] at hr
 by_cases h3 : p = 3
 · subst h3
   rw [if_pos rfl] at hr
   cases ws with
   | nil=>rw [if_pos rfl] at hr;cases hr
   | cons x rest =>
    rw [if_neg (by simp)] at hr
    obtain ⟨r,hq,rfl⟩:=Rd.map_some' hr
    exact ⟨rdTexts_ok h hq,fun x hx=>by simp at hx,rfl⟩
 rw [if_neg h3] at hr
 by_cases h4 : p = 4
 · rw [if_pos h4] at hr;cases hr
 rw [if_neg h4] at hr
 by_cases h5 : p = 5 ∨ p = 6
 · rw [if_pos h5] at hr
   obtain ⟨y,hy,hr⟩:=Rd.bind_some' hr
   obtain ⟨x,rest,rfl,hx,rfl⟩:=Rd.plainW_some hy
   obtain ⟨r,hq,rfl⟩:=Rd.map_some' hr
   have e : rdF p = 125:=by rcases h5 with rfl | rfl <;> rfl
   rw [e,if_neg (by omega)]
   exact ⟨rdHost_ok h hx ho hq,fun x hx=>by simp [hx],rfl⟩
 rw [if_neg h5] at hr
 by_cases h7 : p = 7
 · subst h7
   rw [if_pos rfl] at hr
   obtain ⟨y,hy,hr⟩:=Rd.bind_some' hr
   obtain ⟨x,rest,rfl,hx,rfl⟩:=Rd.plainW_some hy
   obtain ⟨r,hq,rfl⟩:=Rd.map_some' hr
   exact ⟨rdMail_ok h hx ho hq,fun x hx=>by simp [hx],rfl⟩
 rw [if_neg h7] at hr
 obtain ⟨y,hy,hr⟩:=Rd.bind_some' hr
 obtain ⟨x,rest,rfl,hx,rfl⟩:=Rd.plainW_some hy
 obtain ⟨r,hq,rfl⟩:=Rd.map_some' hr
 by_cases h8 : p = 8
 · subst h8
   rw [if_pos rfl] at hq
   exact ⟨rdNarrow_ok h hx (hn (.inl rfl)) hq,fun x hx=>by simp [hx],rfl⟩
 · obtain rfl : p = 9:=by omega
   rw [if_neg h8] at hq
   exact ⟨rdWide_ok h hx (hn (.inr rfl)) hq,fun x hx=>by simp [hx],rfl⟩
end
end Go.Proofs.YtekafhogiambaaaGreatDoor
namespace Go.Proofs.YtekafhogiambaaaGreatDoor
open Go.RowKit
def fnV (g p : Nat) : Value:=.func (Fn.func (rdF p)) #[.pointer (some ⟨g,0,none⟩)] #[]
def fnTab (g : Nat) : Array Value:=#[fnV g 0,fnV g 1,fnV g 2,fnV g 3,fnV g 4,fnV g 5,fnV g 6,fnV g 7,fnV g 8,fnV g 9]
theorem fnTab_at (g : Nat) {p : Nat} (hp : p ≤ 9) : (fnTab g)[p]? = some (fnV g p):=by
 rcases (by omega : p = 0 ∨ p = 1 ∨ p = 2 ∨ p = 3 ∨ p = 4 ∨ p = 5 ∨ p = 6 ∨ p = 7 ∨ p = 8 ∨ p = 9) with rfl | rfl | rfl | rfl | rfl | rfl | rfl | rfl | rfl | rfl <;> rfl
theorem new_at (w : World) {k : Nat} (o : Obj) (hk : k = w.heap.size) : (w.alloc o).heap[k]? = some o:=by
 subst hk
 exact heap_alloc_new w o
section
variable {g hi t : Nat} {o : ByteArray} {ws : List Rd.W2} {d : Rd.Dt} {w : World}
set_option maxHeartbeats 2000000 in
theorem rdKnown_ok (h : St w g hi o ws Rd.dt0 0) (ht : t ≤ 65535) (hr : Rd.knownR o.data.toList t ws = some d) (h32 : ∀ x ∈ ws,x.1.length < 4294967281) (ho : o.size ≤ 140737488355328) :
 Calls Tryz.prog 99 #[.pointer (some ⟨g,0,none⟩),.int .u16 t] w fun e w' => e = .returned (dv d).val ∧ Kb g w.heap.size w w':=by
 unfold Rd.knownR at hr
 obtain ⟨S,hS,hq⟩:=Rd.bind_some' hr
 clear hr
 have hS0 : S.1 = []:=Decidable.byContradiction fun hS0=>by rw [if_neg hS0] at hq;cases hq
 rw [if_pos hS0] at hq
 injection hq with hr
 have hgw:=h.lt
 have hmf : ∀ (fn : Fn) (first cap : Array Value) (W : World),(Instr.makeFunc fn first cap).run Tryz.prog W = .ok (.func fn first cap) W:=fun _ _ _ _=>rfl
 have HS0:=Lib.hid h
 have HALL:=Lib.hid hS
 have HE:=Lib.hid hS0
 have HR:=Lib.hid hr
 have H32:=Lib.hid h32
 have HPO : Hid (∀ W : World,LayR W → Calls Tryz.prog 44 #[.int .u16 t] W fun e w' => e = .returned (.agg (partC t)) ∧ Below W.heap.size W w'):=fun W h=>partsOf_any t W ht h
 clear h hS hS0 h32
 clear hr
 go_enter Tryz.func99,Tryz.ntmps99
 go_upto_region 2 with (refine wpList_store_row rfl 179 (.tmp 5) (.tmp 28) rfl (w.heap.size + 1) (fnTab g) rfl rfl 179 _ (new_at _ _ (by simp)) (by kernel_rfl) rfl (by simp [fnTab,fnV,Value.oneCell']) ?_)
 have hH1 : Has ((w.alloc (.cells #[.string ⟨#[]⟩,.string ⟨#[]⟩,.string ⟨#[]⟩,.int .u32 0,.int .u32 0,.int .u32 0,.int .u32 0,.int .u32 0] 37)).alloc (.cells #[.nilFunc,.nilFunc,.nilFunc,.nilFunc,.nilFunc,.nilFunc,.nilFunc,.nilFunc,.nilFunc,.nilFunc] 179)) (w.heap.size + 1) 179 #[.nilFunc,.nilFunc,.nilFunc,.nilFunc,.nilFunc,.nilFunc,.nilFunc,.nilFunc,.nilFunc,.nilFunc]:=new_at _ _ (by simp)
 have hH0:=((Has.fresh w 37 #[.string ⟨#[]⟩,.string ⟨#[]⟩,.string ⟨#[]⟩,.int .u32 0,.int .u32 0,.int .u32 0,.int .u32 0,.int .u32 0]).alloc (.cells #[.nilFunc,.nilFunc,.nilFunc,.nilFunc,.nilFunc,.nilFunc,.nilFunc,.nilFunc,.nilFunc,.nilFunc] 179)).rowFar (g':=w.heap.size + 1) (by omega) (fnTab g)
 have hH2:=hH1.row (fnTab g)
 have hB2:=below_setRow (((Below.refl w.heap.size w).alloc (Nat.le_refl _) (.cells #[.string ⟨#[]⟩,.string ⟨#[]⟩,.string ⟨#[]⟩,.int .u32 0,.int .u32 0,.int .u32 0,.int .u32 0,.int .u32 0] 37)).alloc (by simp) (.cells #[.nilFunc,.nilFunc,.nilFunc,.nilFunc,.nilFunc,.nilFunc,.nilFunc,.nilFunc,.nilFunc,.nilFunc] 179)) (g:=w.heap.size + 1) (by omega) (fnTab g)
 clear hH1
 generalize World.setRow _ _ _ = W2 at *
 have HH0:=Lib.hid hH0
 have HH2:=Lib.hid hH2
 have HB2:=Lib.hid hB2
 have hW2:=hH2.lt
 have HG2:=Lib.hid (HS0.out.keep hB2)
 clear hH0 hH2 hB2
 go_wp2_with (go_at_call 44;refine (HPO.out _ HG2.out.gl.2.1).mono ?_;rintro e w3 ⟨rfl,B3⟩;have HB3:=Lib.hid B3;have HG3:=Lib.hid (HG2.out.keep B3);have HH03:=Lib.hid (HH0.out.below B3 HH0.out.lt);have HH23:=Lib.hid (HH2.out.below B3 HH2.out.lt);clear B3)
 have HK3 : Hid (Kb g w.heap.size w w3):=Kb.of_below (HB2.out.trans (HB3.out.mono (by omega)))
 have hw3 : W2.heap.size ≤ w3.heap.size:=HB3.out.size
 clear HH0 HH2 HG2 HB2 HB3 HPO
 have hpl:=Rd.parts_len t
 have HPL:=Lib.hid hpl
 clear hpl
 go_loopw [31] (fun i wr => ∃ (k : Nat) (s : Rd.RS),i = .int .i64 k ∧ k ≤ 7 ∧ Hid (St wr g hi o s.1 s.2.1 s.2.2) ∧ Hid (Rd.rdAll o.data.toList ((Rd.parts t).drop k) s = some S) ∧ Hid (∀ x ∈ s.1,x.1.length < 4294967281) ∧ Hid (s.2.2 = Rd.nums ((Rd.parts t).take k)) ∧ Hid (Kb g w.heap.size w wr) ∧ Hid (Has wr (w.heap.size + 1) 179 (fnTab g)) ∧ Hid (Has wr w.heap.size 37 #[.string ⟨#[]⟩,.string ⟨#[]⟩,.string ⟨#[]⟩,.int .u32 0,.int .u32 0,.int .u32 0,.int .u32 0,.int .u32 0])) (fun i _=>7 - (intOf i).toNat)
 case atStart=>exact ⟨0,(ws,Rd.dt0,0),rfl,by omega,HG3.out,HALL.out,H32.out,rfl,HK3.out,HH23.out,HH03.out⟩
 case round =>
  obtain ⟨k,s,rfl,hk,HST,HAL,H32,HN,HK,HT,HZ⟩:=hrel
  have hwr:=HT.out.lt
  by_cases hlt : k < 7
  · have hj : k < (Rd.parts t).length:=by rw [HPL.out];exact hlt
    have hpa:=part_at hj
    have hal:=HAL.out
    rw [List.drop_eq_getElem_cons hj,Rd.rdAll] at hal
    obtain ⟨s',hs',hal'⟩:=Rd.bind_some' hal
    have hp9 : (Rd.parts t)[k] ≤ 9:=Rd.parts_lt t _ (List.getElem_mem hj)
    have hn5 : (Rd.parts t)[k] = 8 ∨ (Rd.parts t)[k] = 9 → s.2.2 < 5:=fun h=>by
     have h1:=Rd.nums_le (t:=t) (k:=k + 1)
     rw [List.take_succ_eq_append_getElem hj,Rd.nums_snoc,if_pos h] at h1
     rw [HN.out];omega
    obtain ⟨hC,hsub,hnn⟩:=part_ok (p:=(Rd.parts t)[k]) HST.out hp9 hs' hn5 H32.out ho
    have hnn2 : s'.2.2 = Rd.nums ((Rd.parts t).take (k + 1)):=by
     rw [List.take_succ_eq_append_getElem hj,Rd.nums_snoc,← HN.out]
     exact hnn
    have h4 : (Rd.parts t)[k] ≠ 4:=fun h=>by rw [h] at hs';cases hs'
    have ct : wr.cell? ⟨w.heap.size + 1,(Rd.parts t)[k],none⟩ = some (fnV g (Rd.parts t)[k]):=by rw [HT.out.cell];exact fnTab_at g hp9
    have HC:=Lib.hid hC
    have HAL':=Lib.hid hal'
    have HNN:=Lib.hid hnn2
    have H32':=Lib.hid (fun x hx=>H32.out x (hsub x hx))
    clear hal hs' hal' hn5 hC hsub hnn hnn2
    generalize (Rd.parts t)[k] = p at *
    clear hj
    rcases (by omega : p = 0 ∨ p = 1 ∨ p = 2 ∨ p = 3 ∨ p = 4 ∨ p = 5 ∨ p = 6 ∨ p = 7 ∨ p = 8 ∨ p = 9) with rfl | rfl | rfl | rfl | rfl | rfl | rfl | rfl | rfl | rfl
    · have ct2 : wr.cell? ⟨w.heap.size + 1,0,none⟩ = some (.func (Fn.func 121) #[.pointer (some ⟨g,0,none⟩)] #[]):=ct
      have HC2 : Hid (Calls Tryz.prog 121 #[.pointer (some ⟨g,0,none⟩)] wr fun e w' => e = .returned (.tuple #[]) ∧ St w' g hi o s'.1 s'.2.1 s'.2.2 ∧ Kb g wr.heap.size wr w'):=HC.out
      clear ct HC
      go_wp2_with (go_at_call 121;refine HC2.out.mono ?_;rintro e w4 ⟨rfl,S4,K4⟩;have HS4:=Lib.hid S4;have HT4:=Lib.hid (K4.has HT.out HT.out.lt (by omega));have HZ4:=Lib.hid (K4.has HZ.out HZ.out.lt (by omega));have HK4:=Lib.hid (HK.out.on K4);clear S4 K4)
      exact ⟨⟨k + 1,s',by go_num,by omega,HS4.out,HAL'.out,H32'.out,HNN.out,HK4.out,HT4.out,HZ4.out⟩,by simp [intOf];omega⟩
    · have ct2 : wr.cell? ⟨w.heap.size + 1,1,none⟩ = some (.func (Fn.func 122) #[.pointer (some ⟨g,0,none⟩)] #[]):=ct
      have HC2 : Hid (Calls Tryz.prog 122 #[.pointer (some ⟨g,0,none⟩)] wr fun e w' => e = .returned (.tuple #[]) ∧ St w' g hi o s'.1 s'.2.1 s'.2.2 ∧ Kb g wr.heap.size wr w'):=HC.out
      clear ct HC
      go_wp2_with (go_at_call 122;refine HC2.out.mono ?_;rintro e w4 ⟨rfl,S4,K4⟩;have HS4:=Lib.hid S4;have HT4:=Lib.hid (K4.has HT.out HT.out.lt (by omega));have HZ4:=Lib.hid (K4.has HZ.out HZ.out.lt (by omega));have HK4:=Lib.hid (HK.out.on K4);clear S4 K4)
      exact ⟨⟨k + 1,s',by go_num,by omega,HS4.out,HAL'.out,H32'.out,HNN.out,HK4.out,HT4.out,HZ4.out⟩,by simp [intOf];omega⟩
    · have ct2 : wr.cell? ⟨w.heap.size + 1,2,none⟩ = some (.func (Fn.func 123) #[.pointer (some ⟨g,0,none⟩)] #[]):=ct
      have HC2 : Hid (Calls Tryz.prog 123 #[.pointer (some ⟨g,0,none⟩)] wr fun e w' => e = .returned (.tuple #[]) ∧ St w' g hi o s'.1 s'.2.1 s'.2.2 ∧ Kb g wr.heap.size wr w'):=HC.out
      clear ct HC
      go_wp2_with (go_at_call 123;refine HC2.out.mono ?_;rintro e w4 ⟨rfl,S4,K4⟩;have HS4:=Lib.hid S4;have HT4:=Lib.hid (K4.has HT.out HT.out.lt (by omega));have HZ4:=Lib.hid (K4.has HZ.out HZ.out.lt (by omega));have HK4:=Lib.hid (HK.out.on K4);clear S4 K4)
      exact ⟨⟨k + 1,s',by go_num,by omega,HS4.out,HAL'.out,H32'.out,HNN.out,HK4.out,HT4.out,HZ4.out⟩,by simp [intOf];omega⟩
    · have ct2 : wr.cell? ⟨w.heap.size + 1,3,none⟩ = some (.func (Fn.func 124) #[.pointer (some ⟨g,0,none⟩)] #[]):=ct
      have HC2 : Hid (Calls Tryz.prog 124 #[.pointer (some ⟨g,0,none⟩)] wr fun e w' => e = .returned (.tuple #[]) ∧ St w' g hi o s'.1 s'.2.1 s'.2.2 ∧ Kb g wr.heap.size wr w'):=HC.out
      clear ct HC
      go_wp2_with (go_at_call 124;refine HC2.out.mono ?_;rintro e w4 ⟨rfl,S4,K4⟩;have HS4:=Lib.hid S4;have HT4:=Lib.hid (K4.has HT.out HT.out.lt (by omega));have HZ4:=Lib.hid (K4.has HZ.out HZ.out.lt (by omega));have HK4:=Lib.hid (HK.out.on K4);clear S4 K4)
      exact ⟨⟨k + 1,s',by go_num,by omega,HS4.out,HAL'.out,H32'.out,HNN.out,HK4.out,HT4.out,HZ4.out⟩,by simp [intOf];omega⟩
    · exact absurd rfl h4
    · have ct2 : wr.cell? ⟨w.heap.size + 1,5,none⟩ = some (.func (Fn.func 125) #[.pointer (some ⟨g,0,none⟩)] #[]):=ct
      have HC2 : Hid (Calls Tryz.prog 125 #[.pointer (some ⟨g,0,none⟩)] wr fun e w' => e = .returned (.tuple #[]) ∧ St w' g hi o s'.1 s'.2.1 s'.2.2 ∧ Kb g wr.heap.size wr w'):=HC.out
      clear ct HC
      go_wp2_with (go_at_call 125;refine HC2.out.mono ?_;rintro e w4 ⟨rfl,S4,K4⟩;have HS4:=Lib.hid S4;have HT4:=Lib.hid (K4.has HT.out HT.out.lt (by omega));have HZ4:=Lib.hid (K4.has HZ.out HZ.out.lt (by omega));have HK4:=Lib.hid (HK.out.on K4);clear S4 K4)
      exact ⟨⟨k + 1,s',by go_num,by omega,HS4.out,HAL'.out,H32'.out,HNN.out,HK4.out,HT4.out,HZ4.out⟩,by simp [intOf];omega⟩
    · have ct2 : wr.cell? ⟨w.heap.size + 1,6,none⟩ = some (.func (Fn.func 125) #[.pointer (some ⟨g,0,none⟩)] #[]):=ct
      have HC2 : Hid (Calls Tryz.prog 125 #[.pointer (some ⟨g,0,none⟩)] wr fun e w' => e = .returned (.tuple #[]) ∧ St w' g hi o s'.1 s'.2.1 s'.2.2 ∧ Kb g wr.heap.size wr w'):=HC.out
      clear ct HC
      go_wp2_with (go_at_call 125;refine HC2.out.mono ?_;rintro e w4 ⟨rfl,S4,K4⟩;have HS4:=Lib.hid S4;have HT4:=Lib.hid (K4.has HT.out HT.out.lt (by omega));have HZ4:=Lib.hid (K4.has HZ.out HZ.out.lt (by omega));have HK4:=Lib.hid (HK.out.on K4);clear S4 K4)
      exact ⟨⟨k + 1,s',by go_num,by omega,HS4.out,HAL'.out,H32'.out,HNN.out,HK4.out,HT4.out,HZ4.out⟩,by simp [intOf];omega⟩
    · have ct2 : wr.cell? ⟨w.heap.size + 1,7,none⟩ = some (.func (Fn.func 126) #[.pointer (some ⟨g,0,none⟩)] #[]):=ct
      have HC2 : Hid (Calls Tryz.prog 126 #[.pointer (some ⟨g,0,none⟩)] wr fun e w' => e = .returned (.tuple #[]) ∧ St w' g hi o s'.1 s'.2.1 s'.2.2 ∧ Kb g wr.heap.size wr w'):=HC.out
      clear ct HC
      go_wp2_with (go_at_call 126;refine HC2.out.mono ?_;rintro e w4 ⟨rfl,S4,K4⟩;have HS4:=Lib.hid S4;have HT4:=Lib.hid (K4.has HT.out HT.out.lt (by omega));have HZ4:=Lib.hid (K4.has HZ.out HZ.out.lt (by omega));have HK4:=Lib.hid (HK.out.on K4);clear S4 K4)
      exact ⟨⟨k + 1,s',by go_num,by omega,HS4.out,HAL'.out,H32'.out,HNN.out,HK4.out,HT4.out,HZ4.out⟩,by simp [intOf];omega⟩
    · have ct2 : wr.cell? ⟨w.heap.size + 1,8,none⟩ = some (.func (Fn.func 127) #[.pointer (some ⟨g,0,none⟩)] #[]):=ct
      have HC2 : Hid (Calls Tryz.prog 127 #[.pointer (some ⟨g,0,none⟩)] wr fun e w' => e = .returned (.tuple #[]) ∧ St w' g hi o s'.1 s'.2.1 s'.2.2 ∧ Kb g wr.heap.size wr w'):=HC.out
      clear ct HC
      go_wp2_with (go_at_call 127;refine HC2.out.mono ?_;rintro e w4 ⟨rfl,S4,K4⟩;have HS4:=Lib.hid S4;have HT4:=Lib.hid (K4.has HT.out HT.out.lt (by omega));have HZ4:=Lib.hid (K4.has HZ.out HZ.out.lt (by omega));have HK4:=Lib.hid (HK.out.on K4);clear S4 K4)
      exact ⟨⟨k + 1,s',by go_num,by omega,HS4.out,HAL'.out,H32'.out,HNN.out,HK4.out,HT4.out,HZ4.out⟩,by simp [intOf];omega⟩
    · have ct2 : wr.cell? ⟨w.heap.size + 1,9,none⟩ = some (.func (Fn.func 128) #[.pointer (some ⟨g,0,none⟩)] #[]):=ct
      have HC2 : Hid (Calls Tryz.prog 128 #[.pointer (some ⟨g,0,none⟩)] wr fun e w' => e = .returned (.tuple #[]) ∧ St w' g hi o s'.1 s'.2.1 s'.2.2 ∧ Kb g wr.heap.size wr w'):=HC.out
      clear ct HC
      go_wp2_with (go_at_call 128;refine HC2.out.mono ?_;rintro e w4 ⟨rfl,S4,K4⟩;have HS4:=Lib.hid S4;have HT4:=Lib.hid (K4.has HT.out HT.out.lt (by omega));have HZ4:=Lib.hid (K4.has HZ.out HZ.out.lt (by omega));have HK4:=Lib.hid (HK.out.on K4);clear S4 K4)
      exact ⟨⟨k + 1,s',by go_num,by omega,HS4.out,HAL'.out,H32'.out,HNN.out,HK4.out,HT4.out,HZ4.out⟩,by simp [intOf];omega⟩
  · obtain rfl : k = 7:=by omega
    have hal:=HAL.out
    rw [List.drop_eq_nil_of_le (by rw [HPL.out];omega)] at hal
    injection hal with hal
    subst hal
    have hst:=HST.out
    rw [HE.out] at hst
    obtain ⟨A,c,c0⟩:=hst.front
    obtain ⟨v,hh⟩:=hst.has
    have hrg : wr.rangeAt g 2 [sv s.2.1.raw,sv s.2.1.host,sv s.2.1.mail,.int .u32 s.2.1.n0,.int .u32 s.2.1.n1,.int .u32 s.2.1.n2,.int .u32 s.2.1.n3,.int .u32 s.2.1.n4]:=fun j v hj=>by
     rw [hh.cell]
     have e : ∀ j,(rdC v o s.2.1 s.2.2)[2 + j]? = (rdC v o s.2.1 s.2.2).toList[2 + j]?:=fun j=>by simp
     match j,hj with
     | 0,hj=>exact hj
     | 1,hj=>exact hj
     | 2,hj=>exact hj
     | 3,hj=>exact hj
     | 4,hj=>exact hj
     | 5,hj=>exact hj
     | 6,hj=>exact hj
     | 7,hj=>exact hj
    have hi8 : (Tryz.prog.info? 37).map (·.size) = some 8:=by kernel_rfl
    have HI:=Lib.hid hi8
    have HRG:=Lib.hid hrg
    have hd : d = s.2.1:=HR.out.symm
    have HD:=Lib.hid hd
    clear hst hh hrg hi8 hd
    obtain ⟨dd,hdd⟩ : ∃ dd,s.2.1 = dd:=⟨_,rfl⟩
    rw [hdd] at HRG HD
    clear hdd
    obtain ⟨r,h,m,n0,n1,n2,n3,n4⟩:=dd
    go_wp2_with (first
     | (refine wpList_load_mid rfl 37 (.tmp 49) rfl g 2 rfl [sv r,sv h,sv m,.int .u32 n0,.int .u32 n1,.int .u32 n2,.int .u32 n3,.int .u32 n4] _ HRG.out Tryz.underlying37 rfl HI.out ?_)
     | (refine wpList_store_row rfl 37 (.tmp 4) (.tmp 50) rfl w.heap.size #[sv r,sv h,sv m,.int .u32 n0,.int .u32 n1,.int .u32 n2,.int .u32 n3,.int .u32 n4] rfl rfl 37 _ HZ.out HI.out rfl (by simp [Value.oneCell']) ?_))
    refine bodyPost_ret (results_cell_row rfl _ _ w.heap.size 37 #[sv r,sv h,sv m,.int .u32 n0,.int .u32 n1,.int .u32 n2,.int .u32 n3,.int .u32 n4] (0,0) _ rfl (HZ.out.row _) Tryz.underlying37 rfl HI.out) rfl ?_
    refine ⟨by rw [HD.out];rfl,HK.out.trans (Kb.of_below (below_setRow (Below.refl _ _) (Nat.le_refl _) _))⟩
end
end Go.Proofs.YtekafhogiambaaaGreatDoor
namespace Go.Proofs.YtekafhogiambaaaGreatDoor.Rd
def wr1 (d : Dt) (hl ml : List By) (n p : Nat) (T : Tab) (l : By) : Tab × By :=
 if 1 ≤ p ∧ p ≤ 4 then (T,l ++ d.raw)
 else if p = 5 then ((Pr.pw false T l.length hl).1,l ++ (Pr.pw false T l.length hl).2)
 else if p = 6 then ((Pr.pw true T l.length hl).1,l ++ (Pr.pw true T l.length hl).2)
 else if p = 7 then ((Pr.pw false T l.length ml).1,l ++ (Pr.pw false T l.length ml).2)
 else if p = 8 then (T,l ++ Oc.beb 2 (hasN d n))
 else if p = 9 then (T,l ++ Oc.beb 4 (hasN d n))
 else (T,l)
def wrs (T : Tab) (l : By) (d : Dt) (hl ml : List By) (ps : List Nat) : Tab × By × Nat :=
 ps.foldl (fun s p=>((wr1 d hl ml s.2.2 p s.1 s.2.1).1,(wr1 d hl ml s.2.2 p s.1 s.2.1).2,s.2.2 + if p = 8 ∨ p = 9 then 1 else 0)) (T,l,0)
end Go.Proofs.YtekafhogiambaaaGreatDoor.Rd
namespace Go.Proofs.YtekafhogiambaaaGreatDoor.Rd
structure One (b : By) (d : Dt) (hl ml : List By) (n p i j : Nat) : Prop where
 le : i ≤ j
 top : j ≤ b.length
 none : p = 0 → j = i
 raw : 1 ≤ p → p ≤ 4 → j = i + d.raw.length ∧ (b.drop i).take d.raw.length = d.raw
 host : p = 5 ∨ p = 6 → Pr.Rdb b i hl i j
 mail : p = 7 → Pr.Rdb b i ml i j
 n16 : p = 8 → j = i + 2 ∧ Oc.num ((b.drop i).take 2) = hasN d n
 n32 : p = 9 → j = i + 4 ∧ Oc.num ((b.drop i).take 4) = hasN d n
def All (b : By) (d : Dt) (hl ml : List By) (ps : List Nat) (pos : Nat → Nat) : Prop := ∀ j (h : j < ps.length),One b d hl ml (nums (ps.take j)) (ps[j]'h) (pos j) (pos (j + 1))
def pos (T : Tab) (l : By) (d : Dt) (hl ml : List By) (ps : List Nat) (j : Nat) : Nat:=(wrs T l d hl ml (ps.take j)).2.1.length
end Go.Proofs.YtekafhogiambaaaGreatDoor.Rd
namespace Go.Proofs.YtekafhogiambaaaGreatDoor
open Go.RowKit
def trV : Pr.TR → Value
 | .err e=>.tuple #[.string ⟨#[]⟩,.int .i64 0,.int .i64 e]
 | .ok ls bh=>.tuple #[sv (Nm.glue ls),.int .i64 bh,.int .i64 0]
def prTakeV (l : List UInt8) (z : Int) : Value :=
 if z < 0 ∨ (l.length : Int) < z then .tuple #[.string ⟨#[]⟩,.int .i64 0,.int .i64 1] else trV (Pr.tk l z.toNat z.toNat 1)
end Go.Proofs.YtekafhogiambaaaGreatDoor
namespace Go.Proofs.YtekafhogiambaaaGreatDoor
open Go.RowKit
structure RS (W : World) (g B : Nat) (A : Option Addr) (n c : Nat) (X : List UInt8) (ld : Bool) (tw : Int) : Prop where
 hB : B ≤ g
 own : ∃ vL,Has W g 232 #[.slice A n c,vL,.bool ld,.int .i64 tw] ∧ W.ownsRow B 5 1 vL X.length (bv X)
theorem has_ne_own2 {W : World} {g B : Nat} {t e : TypeId} {cs : Array Value} {v : Value} {n : Nat} {xs : List Value} (h : Has W g t cs) (ho : W.ownsRow B e 1 v n xs) (hte : t ≠ e) : some g ≠ v.ownBlock:=by
 rcases ho.2 with ⟨rfl,_⟩ | ⟨g',cap,cur,rfl,_,hgb,_⟩
 · simp [Value.ownBlock]
 · intro e'
   obtain rfl : g = g':=by simpa [Value.ownBlock] using e'
   rw [show W.heap[g]? = _ from h] at hgb
   cases hgb
   exact hte rfl
theorem oper_append_run {P : Program} {w : World} {o : Oper} {a : Act} {K : Act → World → Prop} {Q : Exit → Act → World → Prop} (s x : Operand) (t u : TypeId)
 (ho : o.op = .call { callee:=.builtin .append,args:=#[s,x],argTypes:=#[t,u] }) (v y : Value) (hs : a.eval s = v) (hx : a.eval x = y) {v' : Value} {w' : World}
 (hr : (Builtin.append_ #[t,u] o.type #[v,y]).run P w = .ok v' w') (h : K (a.put o.dst v') w') : o.wp P a w K Q:=by
 unfold Oper.wp execOp
 simp only [ho,resolve,invoke,builtin,Sem.run_bind,Sem.run_pure,Result.andThen_ok,List.map_toArray,List.map_cons,List.map_nil,hs,hx,hr]
 exact h
theorem set_gr (W : World) (b i : Nat) (u : Value) : W.grownBy (W.setCell ⟨b,i,none⟩ u) (some b):=⟨rfl,rfl,rfl,by simp,fun j _ hj=>heap_setCell_other W ⟨b,i,none⟩ j u (fun e=>hj (by rw [e]))⟩
theorem num1 (l : List UInt8) (n : Nat) (h : n < l.length) : Oc.num ((l.drop n).take 1) = (l[n]'h).toNat:=by
 have:=num_step l n 0 h
 simpa [Oc.num] using this
theorem num2 (l : List UInt8) (n : Nat) (h : n + 1 < l.length) : Oc.num ((l.drop n).take 2) = (l[n]'(by omega)).toNat * 256 + (l[n + 1]'h).toNat:=by
 have:=num_step l n 1 h
 rw [num1 l n (by omega)] at this
 exact this
theorem take_lab (l : List UInt8) (n k : Nat) (h : n < l.length) (hk : (l[n]'h).toNat = k) (h2 : n + 1 + k ≤ l.length) : (l.drop n).take (1 + k) = Nm.lab ((l.drop (n + 1)).take k):=by
 rw [List.drop_eq_getElem_cons h,Nat.add_comm 1 k,List.take_succ_cons]
 unfold Nm.lab
 have : ((l.drop (n + 1)).take k).length = k:=by rw [List.length_take,List.length_drop];omega
 rw [this,← hk]
 simp
set_option maxHeartbeats 1000000 in
theorem lab_few (g B n c k lo hi : Nat) (A : Option Addr) (l : List UInt8) (X : List UInt8) (ld : Bool) (tw : Int) (W : World) (h : RS W g B A l.length c X ld tw) (hc : l.length ≤ c) (hm : l.length ≤ 211106232532992) (hb : Bs W lo hi A l)
 (hn : n < l.length) (hk : (l[n]'hn).toNat = k) (hf : l.length < n + 1 + k) :
 Calls Tryz.prog 178 #[.pointer (some ⟨g,0,none⟩),.int .i64 n] W fun e W' => e = .returned (.tuple #[.int .i64 0,.int .i64 6]) ∧ W = W':=by
 obtain ⟨hB,vL,h1,h2⟩:=h
 have c0 : W.cell? ⟨g,0,none⟩ = some (.slice A l.length c):=by rw [h1.cell];rfl
 have hT:=takeText A l c n W hc hm lo hi hb
 have hnum : Oc.num ((l.drop n).take 1) = k:=by rw [num1 l n hn,hk]
 have hv : takeTextV l n = .tuple #[.string ⟨#[]⟩,.int .i64 0,.int .i64 6]:=by
  unfold takeTextV
  rw [if_neg (by omega)]
  simp only [Int.toNat_natCast,hnum]
  rw [if_pos (.inl (by omega))]
 rw [hv] at hT
 have HT:=Lib.hid hT
 clear h1 h2 hT hv hnum hb
 go_enter Tryz.func178,Tryz.ntmps178
 go_wp2_with (go_at_call 100;refine HT.out.mono ?_;rintro e w' ⟨rfl,rfl⟩)
 go_ret2
 exact ⟨rfl,rfl⟩
set_option maxHeartbeats 1000000 in
theorem lab_long (g B n c k lo hi : Nat) (A : Option Addr) (l : List UInt8) (X : List UInt8) (ld : Bool) (tw : Int) (W : World) (h : RS W g B A l.length c X ld tw) (hc : l.length ≤ c) (hm : l.length ≤ 211106232532992) (hb : Bs W lo hi A l)
 (hn : n < l.length) (hk : (l[n]'hn).toNat = k) (hf : n + 1 + k ≤ l.length) (hX : X.length ≤ 254) (hL : 255 < X.length + 1 + k + 1) :
 Calls Tryz.prog 178 #[.pointer (some ⟨g,0,none⟩),.int .i64 n] W fun e W' => e = .returned (.tuple #[.int .i64 0,.int .i64 2]) ∧ W = W':=by
 obtain ⟨hB,vL,h1,h2⟩:=h
 obtain ⟨aL,cL,rfl⟩:=own_form h2
 have c0 : W.cell? ⟨g,0,none⟩ = some (.slice A l.length c):=by rw [h1.cell];rfl
 have c1 : W.cell? ⟨g,1,none⟩ = some (.slice aL X.length cL):=by rw [h1.cell];rfl
 have hT:=takeText A l c n W hc hm lo hi hb
 have hnum : Oc.num ((l.drop n).take 1) = k:=by rw [num1 l n hn,hk]
 have hk8 : k < 256:=by rw [← hk];exact (l[n]'hn).toNat_lt
 have hv : takeTextV l n = .tuple #[sv ((l.drop (n + 1)).take k),.int .i64 ((n : Int) + 1 + k),.int .i64 0]:=by
  unfold takeTextV
  rw [if_neg (by omega)]
  simp only [Int.toNat_natCast,hnum]
  rw [if_neg (by omega)]
 rw [hv] at hT
 have HT:=Lib.hid hT
 have hkn : Hid ((l[n]'hn).toNat = k):=hk
 clear h1 h2 hT hv hnum hb hk
 go_enter Tryz.func178,Tryz.ntmps178
 go_wp2_with (go_at_call 100;refine HT.out.mono ?_;rintro e w' ⟨rfl,rfl⟩)
 go_ret2
 exact ⟨rfl,rfl⟩
set_option maxHeartbeats 1000000 in
theorem lab_ok (g B n c k lo hi : Nat) (A : Option Addr) (l : List UInt8) (X : List UInt8) (ld : Bool) (tw : Int) (W : World) (h : RS W g B A l.length c X ld tw) (hc : l.length ≤ c) (hm : l.length ≤ 211106232532992) (hb : Bs W lo hi A l) (hBW : B ≤ W.heap.size)
 (hn : n < l.length) (hk : (l[n]'hn).toNat = k) (hf : n + 1 + k ≤ l.length) (hL : ¬ 255 < X.length + 1 + k + 1) :
 Calls Tryz.prog 178 #[.pointer (some ⟨g,0,none⟩),.int .i64 n] W fun e W' => e = .returned (.tuple #[.int .i64 (n + 1 + k),.int .i64 0]) ∧ RS W' g B A l.length c (X ++ Nm.lab ((l.drop (n + 1)).take k)) ld tw ∧ Below B W W':=by
 obtain ⟨hB,vL,h1,h2⟩:=h
 obtain ⟨i0,hi0,hz0,hz1,hz2⟩:=info_parts Tryz.infoByte
 obtain ⟨g0,o0,rfl,hlo,hhi,hcell⟩:=hb (by omega)
 obtain ⟨aL,cL,rfl⟩:=own_form h2
 have mixed : Tryz.prog.follows .mixedOrders = true:=by kernel_rfl
 have c0 : W.cell? ⟨g,0,none⟩ = some (.slice (some ⟨g0,o0,none⟩) l.length c):=by rw [h1.cell];rfl
 have c1 : W.cell? ⟨g,1,none⟩ = some (.slice aL X.length cL):=by rw [h1.cell];rfl
 have hT:=takeText (some ⟨g0,o0,none⟩) l c n W hc hm lo hi hb
 have hnum : Oc.num ((l.drop n).take 1) = k:=by rw [num1 l n hn,hk]
 have hk8 : k < 256:=by rw [← hk];exact (l[n]'hn).toNat_lt
 obtain ⟨m,hmm⟩ : ∃ m : Nat,n + 1 + k = m:=⟨_,rfl⟩
 have hv : takeTextV l n = .tuple #[sv ((l.drop (n + 1)).take k),.int .i64 (m : Nat),.int .i64 0]:=by
  unfold takeTextV
  rw [if_neg (by omega)]
  simp only [Int.toNat_natCast,hnum]
  rw [if_neg (by omega),← hmm]
  congr 4
 rw [hv] at hT
 have HT:=Lib.hid hT
 have hbs : Bs W.drew lo hi (some ⟨g0,o0 + n,none⟩) ((l.drop n).take (m - n)):=hb.sub n (m - n) (by omega)
 have hll : ((l.drop n).take (m - n)).length = m - n:=by rw [List.length_take,List.length_drop];omega
 obtain ⟨v',w',hrun,hO',hG',_⟩:=run_append_own (P:=Tryz.prog) W.drew B 51 51 5 i0 (.int .u8 0) 1 1 Tryz.underlying51 hi0 hz0 hz1 hz2 rfl (by decide) (.slice aL X.length cL) X.length (bv X) h2 ⟨g0,o0 + n,none⟩ (m - n) (c - n) (bv ((l.drop n).take (m - n))) (by rw [bv_length,hll];omega) hbs.at_ (bv_one _) (by unfold maxLen;omega) (by omega) hBW
 obtain ⟨aN,cN,rfl⟩:=own_form hO'
 have hq1 : (m : Int) ≤ (c : Int):=by omega
 have hq2 : n ≤ m:=by omega
 have hq3 : ¬ c = n:=by omega
 have hq4 : (X.length : Int) + m - n + 1 ≤ 255:=by omega
 have hq5 : m ≤ l.length:=by omega
 have H1:=Lib.hid h1
 have HO:=Lib.hid hO'
 have HG:=Lib.hid hG'
 have H2:=Lib.hid h2
 have HTL : Hid ((l.drop n).take (m - n) = Nm.lab ((l.drop (n + 1)).take k)):=by
  have:=take_lab l n k hn hk hf
  rw [show m - n = 1 + k from by omega]
  exact this
 have HM:=Lib.hid hmm
 have HRUN:=Lib.hid hrun
 have HL : Hid (m - n = 1 + k):=by show _ = _;omega
 clear h1 h2 hT hv hnum hb hk hO' hG' hbs hll hcell hmm hf hL hrun hi0 hz0 hz1 hz2
 go_enter Tryz.func178,Tryz.ntmps178
 go_wp2_with (go_at_call 100;refine HT.out.mono ?_;rintro e w' ⟨rfl,rfl⟩)
 refine wp_region_held (S:=fun W' => W'.cell? ⟨g,0,none⟩ = some (.slice (some ⟨g0,o0,none⟩) l.length c)) mixed ?_
 have hS0 : W.drew.cell? ⟨g,0,none⟩ = some (.slice (some ⟨g0,o0,none⟩) l.length c):=c0
 show wpAnyH _ _ _ _ _ 16 #[false,false,false,false,false,false,false,false,false,false,false,false,false,false,false,false] _ W.drew
 refine wpAnyH_take (i:=0) (v:=.pointer (some ⟨g,0,none⟩)) rfl (by kernel_rfl) (by kernel_rfl) (by kernel_rfl) (fun _ _ _ h=>h) (Or.inl ⟨by rfl,fun W' hW' => (by go_simp)⟩) hS0 ?_
 simp only [Act.put,List.setIfInBounds_toArray,List.set_cons_zero]
 refine wpAnyH_take (i:=1) (v:=.pointer (some ⟨g,0,none⟩)) rfl (by kernel_rfl) (by kernel_rfl) (by kernel_rfl) (fun _ _ _ h=>h) (Or.inl ⟨by rfl,fun W' hW' => (by go_simp)⟩) hS0 ?_
 simp only [Act.put,List.setIfInBounds_toArray,List.set_cons_zero,List.set_cons_succ]
 refine wpAnyH_take (i:=2) (v:=.pointer (some ⟨g,0,none⟩)) rfl (by kernel_rfl) (by kernel_rfl) (by kernel_rfl) (fun _ _ _ h=>h) (Or.inl ⟨by rfl,fun W' hW' => (by go_simp)⟩) hS0 ?_
 simp only [Act.put,List.setIfInBounds_toArray,List.set_cons_zero,List.set_cons_succ]
 refine wpAnyH_take (i:=3) (v:=.pointer (some ⟨g,1,none⟩)) rfl (by kernel_rfl) (by kernel_rfl) (by kernel_rfl) (fun _ _ _ h=>h) (Or.inl ⟨by rfl,fun W' hW' => (by go_simp)⟩) hS0 ?_
 simp only [Act.put,List.setIfInBounds_toArray,List.set_cons_zero,List.set_cons_succ]
 refine wpAnyH_take (i:=5) (v:=.pointer (some ⟨g,0,none⟩)) rfl (by kernel_rfl) (by kernel_rfl) (by kernel_rfl) (fun _ _ _ h=>h) (Or.inl ⟨by rfl,fun W' hW' => (by go_simp)⟩) hS0 ?_
 simp only [Act.put,List.setIfInBounds_toArray,List.set_cons_zero,List.set_cons_succ]
 refine wpAnyH_take (i:=6) (v:=.pointer (some ⟨g,0,none⟩)) rfl (by kernel_rfl) (by kernel_rfl) (by kernel_rfl) (fun _ _ _ h=>h) (Or.inl ⟨by rfl,fun W' hW' => (by go_simp)⟩) hS0 ?_
 simp only [Act.put,List.setIfInBounds_toArray,List.set_cons_zero,List.set_cons_succ]
 refine wpAnyH_take (i:=7) (v:=.pointer (some ⟨g,0,none⟩)) rfl (by kernel_rfl) (by kernel_rfl) (by kernel_rfl) (fun _ _ _ h=>h) (Or.inl ⟨by rfl,fun W' hW' => (by go_simp)⟩) hS0 ?_
 simp only [Act.put,List.setIfInBounds_toArray,List.set_cons_zero,List.set_cons_succ]
 refine wpAnyH_take (i:=8) (v:=.slice (some ⟨g0,o0,none⟩) l.length c) rfl (by kernel_rfl) (by kernel_rfl) (by kernel_rfl) (fun _ _ _ h=>h) (Or.inl ⟨by rfl,fun W' hW' => (by have:=hW';go_simp)⟩) hS0 ?_
 simp only [Act.put,List.setIfInBounds_toArray,List.set_cons_zero,List.set_cons_succ]
 refine wpAnyH_take (i:=9) (v:=.int .i64 n) rfl (by kernel_rfl) (by kernel_rfl) (by kernel_rfl) (fun _ _ _ h=>h) (Or.inl ⟨by rfl,fun W' hW' => (by go_simp)⟩) hS0 ?_
 simp only [Act.put,List.setIfInBounds_toArray,List.set_cons_zero,List.set_cons_succ]
 refine wpAnyH_take (i:=10) (v:=.int .i64 (m : Nat)) rfl (by kernel_rfl) (by kernel_rfl) (by kernel_rfl) (fun _ _ _ h=>h) (Or.inl ⟨by rfl,fun W' hW' => (by go_simp)⟩) hS0 ?_
 simp only [Act.put,List.setIfInBounds_toArray,List.set_cons_zero,List.set_cons_succ]
 refine wpAnyH_take (i:=11) (v:=.slice (some ⟨g0,o0 + n,none⟩) (m - n) (c - n)) rfl (by kernel_rfl) (by kernel_rfl) (by kernel_rfl) (fun _ _ _ h=>h) (Or.inl ⟨by rfl,fun W' hW' => (by go_simp)⟩) hS0 ?_
 simp only [Act.put,List.setIfInBounds_toArray,List.set_cons_zero,List.set_cons_succ]
 refine wpAnyH_ready (rs := [4]) (by kernel_rfl) (by simp) (AllReadyH.cons rfl (fun K hK=>?_) AllReadyH.nil)
 go_simp
 refine hK.out _ _ hS0 (fun _=>?_)
 clear hK K
 refine wpAnyH_ready (rs := [12]) (by kernel_rfl) (by simp) (AllReadyH.cons (o:={ dst:=some 45,op:=.call { callee:=.builtin .append,args:=#[.tmp 37,.tmp 44],argTypes:=#[51,51] },type:=51,pos := "take.go:60",after:=#[{ on:=4,ground:=.data },{ on:=11,ground:=.data }],guard:=none }) rfl (fun K hK=>?_) AllReadyH.nil)
 rw [if_pos (by rfl)]
 refine oper_append_run (.tmp 37) (.tmp 44) _ _ rfl _ _ rfl rfl HRUN.out ?_
 simp only [Act.put,List.setIfInBounds_toArray,List.set_cons_zero,List.set_cons_succ]
 have hw1 : Has w' g 232 #[.slice (some ⟨g0,o0,none⟩) l.length c,.slice aL X.length cL,.bool ld,.int .i64 tw]:=Has.grown (w:=W.drew) H1.out HG.out (has_ne_own2 H1.out H2.out (by decide))
 have hS1 : w'.cell? ⟨g,0,none⟩ = some (.slice (some ⟨g0,o0,none⟩) l.length c):=by rw [hw1.cell];rfl
 have hc1 : w'.cell? ⟨g,1,none⟩ = some (.slice aL X.length cL):=by rw [hw1.cell];rfl
 have hf1:=hw1.free 1
 refine hK.out _ _ hS1 (fun _=>?_)
 clear hK K
 refine wpAnyH_take (i:=13) (v:=.pointer (some ⟨g,0,none⟩)) rfl (by kernel_rfl) (by kernel_rfl) (by kernel_rfl) (fun _ _ _ h=>h) (Or.inl ⟨by rfl,fun W' hW' => (by go_simp)⟩) hS1 ?_
 simp only [Act.put,List.setIfInBounds_toArray,List.set_cons_zero,List.set_cons_succ]
 refine wpAnyH_take (i:=14) (v:=.pointer (some ⟨g,1,none⟩)) rfl (by kernel_rfl) (by kernel_rfl) (by kernel_rfl) (fun _ _ _ h=>h) (Or.inl ⟨by rfl,fun W' hW' => (by go_simp)⟩) hS1 ?_
 simp only [Act.put,List.setIfInBounds_toArray,List.set_cons_zero,List.set_cons_succ]
 refine wpAnyH_ready (rs := [15]) (by kernel_rfl) (by simp) (AllReadyH.cons rfl (fun K hK=>?_) AllReadyH.nil)
 go_simp
 have hw2:=hw1.set 1 (.slice aN (X.length + (m - n)) cN)
 have hw3 : Has (w'.setCell ⟨g,1,none⟩ (.slice aN (X.length + (m - n)) cN)) g 232 #[.slice (some ⟨g0,o0,none⟩) l.length c,.slice aN (X.length + (m - n)) cN,.bool ld,.int .i64 tw]:=hw2
 refine hK.out _ _ (by rw [hw3.cell];rfl) (fun _=>?_)
 clear hK K
 refine wpAnyH_done (by kernel_rfl) ?_ _
 go_wp2
 go_ret2
 have hlen : X.length + (m - n) = (X ++ Nm.lab ((l.drop (n + 1)).take k)).length:=by
  rw [← HTL.out,List.length_append,List.length_take,List.length_drop]
  have:=HM.out
  have:=HL.out
  omega
 refine ⟨?_,⟨hB,_,hw3,?_⟩,?_⟩
 · rw [← HM.out];rfl
 · refine own_to (w:=w'.setCell ⟨g,1,none⟩ (.slice aN (X.length + (m - n)) cN)) (HO.out.kept (set_gr w' g 1 _) (.inr (has_ne_own2 hw1 HO.out (by decide)).symm)) hlen ?_
   rw [HTL.out,bv_append]
 · exact (((Below.refl B W).drew.grown HG.out hBW (fun r e=>(H2.out.lt r e).1)).setCell (by show B ≤ g;exact hB) _)
set_option maxHeartbeats 1000000 in
theorem ptr_short (g B n b0 c lo hi : Nat) (A : Option Addr) (l : List UInt8) (X : List UInt8) (ld : Bool) (tw : Int) (W : World) (h : RS W g B A l.length c X ld tw) (hc : l.length ≤ c) (hm : l.length ≤ 211106232532992) (hb : Bs W lo hi A l)
 (hn : n < l.length) (hf : ¬ n + 1 < l.length) :
 Calls Tryz.prog 177 #[.pointer (some ⟨g,0,none⟩),.int .i64 b0,.int .i64 n] W fun e W' => e = .returned (.tuple #[.int .i64 0,.int .i64 6]) ∧ W = W':=by
 obtain ⟨hB,vL,h1,h2⟩:=h
 have c0 : W.cell? ⟨g,0,none⟩ = some (.slice A l.length c):=by rw [h1.cell];rfl
 have hT:=take_u16 A l c n W hc hm lo hi hb
 rw [takeV_short (by omega) (by omega)] at hT
 have HT:=Lib.hid hT
 clear h1 h2 hT hb
 go_enter Tryz.func177,Tryz.ntmps177
 go_wp2_with (go_at_call 82;refine HT.out.mono ?_;rintro e w' ⟨rfl,rfl⟩)
 go_ret2
 exact ⟨rfl,rfl⟩
set_option maxHeartbeats 1000000 in
theorem ptr_any (g B n b0 c lo hi p : Nat) (A : Option Addr) (l : List UInt8) (X : List UInt8) (ld : Bool) (tw : Int) (W : World) (h : RS W g B A l.length c X ld tw) (hc : l.length ≤ c) (hm : l.length ≤ 211106232532992) (hb : Bs W lo hi A l)
 (hn : n + 1 < l.length) (h192 : 192 ≤ (l[n]'(by omega)).toNat) (hp : ((l[n]'(by omega)).toNat - 192) * 256 + (l[n + 1]'hn).toNat = p) :
 Calls Tryz.prog 177 #[.pointer (some ⟨g,0,none⟩),.int .i64 b0,.int .i64 n] W fun e W' =>
  e = .returned (if p < b0 then .tuple #[.int .i64 (n + 2),.int .i64 0] else .tuple #[.int .i64 0,.int .i64 30]) ∧ RS W' g B A l.length c X true p ∧ Below B W W':=by
 obtain ⟨hB,vL,h1,h2⟩:=h
 obtain ⟨aL,cL,rfl⟩:=own_form h2
 have c0 : W.cell? ⟨g,0,none⟩ = some (.slice A l.length c):=by rw [h1.cell];rfl
 have c2 : W.cell? ⟨g,2,none⟩ = some (.bool ld):=by rw [h1.cell];rfl
 have c3 : (W.setCell ⟨g,2,none⟩ (.bool true)).cell? ⟨g,3,none⟩ = some (.int .i64 tw):=by rw [(h1.set 2 _).cell];rfl
 have f2:=h1.free 2
 have f3:=h1.free 3
 have hT:=take_u16 A l c n W hc hm lo hi hb
 rw [takeV_ok (by omega)] at hT
 obtain ⟨N,hN⟩ : ∃ N,Oc.num ((l.drop n).take 2) = N:=⟨_,rfl⟩
 rw [hN] at hT
 rw [num2 l n hn] at hN
 have hx8:=(l[n + 1]'hn).toNat_lt
 have hk8:=(l[n]'(by omega)).toNat_lt
 have hNp : N = 49152 + p:=by omega
 have hp16 : p ≤ 16383:=by omega
 subst hNp
 have hw : IntKind.u16.wrap (((49152 + p : Nat) : Int) - 49152) = p:=by rw [IntKind.wrap_u16];omega
 have HT:=Lib.hid hT
 have H1:=Lib.hid h1
 have H2:=Lib.hid h2
 have hw2 : Has ((W.setCell ⟨g,2,none⟩ (.bool true)).setCell ⟨g,3,none⟩ (.int .i64 p)) g 232 #[.slice A l.length c,.slice aL X.length cL,.bool true,.int .i64 p]:=(h1.set 2 _).set 3 _
 have c4 : ((W.setCell ⟨g,2,none⟩ (.bool true)).setCell ⟨g,3,none⟩ (.int .i64 p)).cell? ⟨g,3,none⟩ = some (.int .i64 p):=by rw [hw2.cell];rfl
 have HW:=Lib.hid hw2
 have HRS : Hid (RS ((W.setCell ⟨g,2,none⟩ (.bool true)).setCell ⟨g,3,none⟩ (.int .i64 p)) g B A l.length c X true p ∧ Below B W ((W.setCell ⟨g,2,none⟩ (.bool true)).setCell ⟨g,3,none⟩ (.int .i64 p))):=by
  refine ⟨⟨hB,_,hw2,?_⟩,((Below.refl _ _).setCell (by show B ≤ g;exact hB) _).setCell (by show B ≤ g;exact hB) _⟩
  exact (h2.kept (set_gr W g 2 _) (.inr (has_ne_own2 h1 h2 (by decide)).symm)).kept (set_gr _ g 3 _) (.inr (has_ne_own2 h1 h2 (by decide)).symm)
 clear h1 h2 hT hb hN hw2 hp h192
 by_cases hlt : p < b0
 · rw [if_pos hlt]
   go_enter Tryz.func177,Tryz.ntmps177
   go_wp2_with (go_at_call 82;refine HT.out.mono ?_;rintro e w' ⟨rfl,rfl⟩)
   go_ret2
   refine ⟨rfl,?_⟩
   rw [show (49152 : Int) + p - 49152 = p from by omega]
   exact HRS.out
 · rw [if_neg hlt]
   go_enter Tryz.func177,Tryz.ntmps177
   go_wp2_with (go_at_call 82;refine HT.out.mono ?_;rintro e w' ⟨rfl,rfl⟩)
   go_ret2
   refine ⟨rfl,?_⟩
   rw [show (49152 : Int) + p - 49152 = p from by omega]
   exact HRS.out
end Go.Proofs.YtekafhogiambaaaGreatDoor
namespace Go.Proofs.YtekafhogiambaaaGreatDoor
open Go.RowKit
def RowPost (l X : List UInt8) (g B c b0 : Nat) (A : Option Addr) (W : World) (e : Ending) (W' : World) : Prop :=
 Below B W W' ∧
 ((∃ er : Int,(er == 0) = false ∧ e = .returned (.tuple #[.int .i64 0,.int .i64 er]) ∧ ∀ acc o,Pr.fin acc o (Pr.tk l b0 b0 (1 + X.length)) = .err er) ∨
  (∃ ls bh tw,e = .returned (.tuple #[.int .i64 (bh : Nat),.int .i64 0]) ∧ RS W' g B A l.length c (X ++ Nm.body ls) false tw ∧ (X ++ Nm.body ls).length ≤ 254 ∧ ∀ acc o,Pr.fin acc o (Pr.tk l b0 b0 (1 + X.length)) = .ok (acc ++ ls) (o.getD bh)) ∨
  (∃ ls bh p,e = .returned (.tuple #[.int .i64 (bh : Nat),.int .i64 0]) ∧ RS W' g B A l.length c (X ++ Nm.body ls) true (p : Nat) ∧ p < b0 ∧ (X ++ Nm.body ls).length ≤ 254 ∧
     ∀ acc o,Pr.fin acc o (Pr.tk l b0 b0 (1 + X.length)) = Pr.fin (acc ++ ls) (some (o.getD bh)) (Pr.tk l p p (1 + (X ++ Nm.body ls).length))))
theorem body_snoc' (ls : List (List UInt8)) (x : List UInt8) : Nm.body (ls ++ [x]) = Nm.body ls ++ Nm.lab x:=by rw [Nm.body_append];simp [Nm.body]
set_option maxHeartbeats 4000000 in
theorem row_in (g B b0 c lo : Nat) (A : Option Addr) (l X : List UInt8) (ld : Bool) (tw : Int) (W : World) (h : RS W g B A l.length c X ld tw) (hc : l.length ≤ c) (hm : l.length ≤ 211106232532992) (hb : Bs W lo B A l) (hBW : B ≤ W.heap.size)
 (hb0 : b0 ≤ l.length) (hX : X.length ≤ 254) :
 Calls Tryz.prog 169 #[.pointer (some ⟨g,0,none⟩),.int .i64 b0] W (RowPost l X g B c b0 A W):=by
 have H:=Lib.hid h
 have HB:=Lib.hid hb
 clear h hb
 go_enter Tryz.func169,Tryz.ntmps169
 go_wp2
 go_loopw [6] (fun a wr => ∃ (n : Nat) (ls : List (List UInt8)) (ld : Bool) (tw : Int),a = .int .i64 n ∧ n ≤ l.length ∧ RS wr g B A l.length c (X ++ Nm.body ls) ld tw ∧ Below B W wr ∧ (X ++ Nm.body ls).length ≤ 254 ∧ Hid (∀ acc o,Pr.fin acc o (Pr.tk l b0 b0 (1 + X.length)) = Pr.fin (acc ++ ls) o (Pr.tk l b0 n (1 + (X ++ Nm.body ls).length)))) (fun a _=>l.length - (intOf a).toNat)
 case atStart=>exact ⟨b0, [],ld,tw,rfl,hb0,by simpa [Nm.body] using H.out,Below.refl _ _,by simpa [Nm.body] using hX,by intro acc o;simp [Nm.body]⟩
 case round =>
  obtain ⟨n,ls,ld,tw,rfl,hn,hrs,hbw,hXl,HF⟩:=hrel
  obtain ⟨Y,hY⟩ : ∃ Y,X ++ Nm.body ls = Y:=⟨_,rfl⟩
  rw [hY] at hrs hXl
  have HY:=Lib.hid hY
  have HR:=Lib.hid hrs
  have HW:=Lib.hid hbw
  have hbs:=hbw.size
  have HBr:=Lib.hid (HB.out.keep hbw)
  have hF:=HF.out
  rw [hY] at hF
  have HF2:=Lib.hid hF
  obtain ⟨hgB,vL,hh1,hh2⟩:=hrs
  have c0 : wr.cell? ⟨g,0,none⟩ = some (.slice A l.length c):=by rw [hh1.cell];rfl
  have hT:=take_u8 A l c n wr hc hm lo B (HB.out.keep hbw)
  have hh1':=Lib.hid hh1
  clear hY hbw hF HF hh2
  by_cases hlt : n < l.length
  · rw [takeV_ok (by omega),num1 l n hlt] at hT
    have hk8:=(l[n]'hlt).toNat_lt
    obtain ⟨k,hk⟩ : ∃ k,(l[n]'hlt).toNat = k:=⟨_,rfl⟩
    rw [hk] at hT hk8
    have HK:=Lib.hid hk
    have HT:=Lib.hid hT
    clear hT hk
    by_cases h0 : k = 0
    · subst h0
      have hTE : ∀ acc o,Pr.fin acc o (Pr.tk l b0 b0 (1 + X.length)) = .ok (acc ++ ls) (o.getD (n + 1)):=fun acc o=>by
       rw [HF2.out acc o,Pr.tk_end hlt HK.out];simp [Pr.fin]
      have HTE:=Lib.hid hTE
      have f2:=hh1.free 2
      have c2 : wr.cell? ⟨g,2,none⟩ = some (.bool ld):=by rw [hh1.cell];rfl
      have hwn : Hid (RS (wr.setCell ⟨g,2,none⟩ (.bool false)) g B A l.length c Y false tw):=by
       obtain ⟨_,vL2,k1,k2⟩:=HR.out
       refine ⟨hgB,vL2,?_,k2.kept (set_gr _ g 2 _) (.inr (has_ne_own2 k1 k2 (by decide)).symm)⟩
       exact k1.set 2 (.bool false)
      clear hTE hh1
      go_wp2_with (go_at_call 129;refine HT.out.mono ?_;rintro e w' ⟨rfl,rfl⟩)
      go_ret2
      refine ⟨HW.out.setCell (by show B ≤ g;exact hgB) _,.inr (.inl ⟨ls,n + 1,tw,rfl,?_,?_,HTE.out⟩)⟩
      · rw [HY.out];exact hwn.out
      · rw [HY.out];exact hXl
    · by_cases h1 : 192 ≤ k
      · have hk1 : ((k : Int) == 0) = false:=by simp;omega
        by_cases h2 : n + 1 < l.length
        · obtain ⟨p,hp⟩ : ∃ p,((l[n]'hlt).toNat - 192) * 256 + (l[n + 1]'h2).toNat = p:=⟨_,rfl⟩
          have HPC:=Lib.hid (ptr_any g B n b0 c lo B p A l Y ld tw wr HR.out hc hm HBr.out h2 (by rw [HK.out];exact h1) hp)
          by_cases hlp : p < b0
          · have hTE : ∀ acc o,Pr.fin acc o (Pr.tk l b0 b0 (1 + X.length)) = Pr.fin (acc ++ ls) (some (o.getD (n + 2))) (Pr.tk l p p (1 + Y.length)):=fun acc o=>by
             rw [HF2.out acc o,Pr.tk_jump _ _ hlt (by rw [HK.out];exact h1) h2 (by rw [hp];exact hlp),hp]
            have HTE:=Lib.hid hTE
            clear hTE hp hh1
            go_wp2_with (first
             | (go_at_call 129;refine HT.out.mono ?_;rintro e w' ⟨rfl,rfl⟩)
             | (go_at_call 177;refine HPC.out.mono ?_;rw [if_pos hlp];rintro e w' ⟨rfl,hr5,hb5⟩))
            go_ret2
            refine ⟨HW.out.trans hb5,.inr (.inr ⟨ls,n + 2,p,rfl,?_,hlp,?_,?_⟩)⟩
            · rw [HY.out];exact hr5
            · rw [HY.out];exact hXl
            · rw [HY.out];exact HTE.out
          · have hTE : ∀ acc o,Pr.fin acc o (Pr.tk l b0 b0 (1 + X.length)) = .err 30:=fun acc o=>by
             rw [HF2.out acc o,Pr.tk_back hlt (by rw [HK.out];exact h1) h2 (by rw [hp];exact hlp)];rfl
            have HTE:=Lib.hid hTE
            clear hTE hp hh1
            go_wp2_with (first
             | (go_at_call 129;refine HT.out.mono ?_;rintro e w' ⟨rfl,rfl⟩)
             | (go_at_call 177;refine HPC.out.mono ?_;rw [if_neg hlp];rintro e w' ⟨rfl,hr5,hb5⟩))
            go_ret2
            exact ⟨HW.out.trans hb5,.inl ⟨30,rfl,rfl,HTE.out⟩⟩
        · have hTE : ∀ acc o,Pr.fin acc o (Pr.tk l b0 b0 (1 + X.length)) = .err 6:=fun acc o=>by
           rw [HF2.out acc o,Pr.tk_short hlt (by rw [HK.out];exact h1) h2];rfl
          have HTE:=Lib.hid hTE
          have HPC:=Lib.hid (ptr_short g B n b0 c lo B A l Y ld tw wr HR.out hc hm HBr.out hlt h2)
          clear hTE hh1
          go_wp2_with (first
           | (go_at_call 129;refine HT.out.mono ?_;rintro e w' ⟨rfl,rfl⟩)
           | (go_at_call 177;refine HPC.out.mono ?_;rintro e w' ⟨rfl,rfl⟩))
          go_ret2
          exact ⟨HW.out,.inl ⟨6,rfl,rfl,HTE.out⟩⟩
      · have hk1 : ((k : Int) == 0) = false:=by simp;omega
        by_cases h3 : 64 ≤ k
        · have hTE : ∀ acc o,Pr.fin acc o (Pr.tk l b0 b0 (1 + X.length)) = .err 31:=fun acc o=>by
           rw [HF2.out acc o,Pr.tk_kind hlt (by rw [HK.out];exact h3) (by rw [HK.out];exact h1)];rfl
          have HTE:=Lib.hid hTE
          clear hTE hh1
          go_wp2_with (go_at_call 129;refine HT.out.mono ?_;rintro e w' ⟨rfl,rfl⟩)
          go_ret2
          exact ⟨HW.out,.inl ⟨31,rfl,rfl,HTE.out⟩⟩
        · by_cases h4 : l.length < n + 1 + k
          · have hTE : ∀ acc o,Pr.fin acc o (Pr.tk l b0 b0 (1 + X.length)) = .err 6:=fun acc o=>by
             rw [HF2.out acc o,Pr.tk_few hlt (by rw [HK.out];exact h0) (by rw [HK.out];exact h3) (by rw [HK.out];exact h4)];rfl
            have HTE:=Lib.hid hTE
            have HLC:=Lib.hid (lab_few g B n c k lo B A l Y ld tw wr HR.out hc hm HBr.out hlt HK.out h4)
            clear hTE hh1
            go_wp2_with (first
             | (go_at_call 129;refine HT.out.mono ?_;rintro e w' ⟨rfl,rfl⟩)
             | (go_at_call 178;refine HLC.out.mono ?_;rintro e w' ⟨rfl,rfl⟩))
            go_ret2
            exact ⟨HW.out,.inl ⟨6,rfl,rfl,HTE.out⟩⟩
          · by_cases h5 : 255 < 1 + Y.length + 1 + k
            · have hTE : ∀ acc o,Pr.fin acc o (Pr.tk l b0 b0 (1 + X.length)) = .err 2:=fun acc o=>by
               rw [HF2.out acc o,Pr.tk_long hlt (by rw [HK.out];exact h0) (by rw [HK.out];exact h3) (by rw [HK.out];exact h4) (by rw [HK.out];exact h5)];rfl
              have HTE:=Lib.hid hTE
              have HLC:=Lib.hid (lab_long g B n c k lo B A l Y ld tw wr HR.out hc hm HBr.out hlt HK.out (by omega) hXl (by omega))
              clear hTE hh1
              go_wp2_with (first
               | (go_at_call 129;refine HT.out.mono ?_;rintro e w' ⟨rfl,rfl⟩)
               | (go_at_call 178;refine HLC.out.mono ?_;rintro e w' ⟨rfl,rfl⟩))
              go_ret2
              exact ⟨HW.out,.inl ⟨2,rfl,rfl,HTE.out⟩⟩
            · have hTE : ∀ acc o,Pr.fin acc o (Pr.tk l b0 b0 (1 + X.length)) = Pr.fin (acc ++ (ls ++ [(l.drop (n + 1)).take k])) o (Pr.tk l b0 (n + 1 + k) (1 + Y.length + 1 + k)):=fun acc o=>by
               rw [HF2.out acc o,Pr.tk_label _ _ hlt (by rw [HK.out];exact h0) (by rw [HK.out];exact h3) (by rw [HK.out];exact h4) (by rw [HK.out];exact h5),HK.out,List.append_assoc]
              have HTE:=Lib.hid hTE
              have HLC:=Lib.hid (lab_ok g B n c k lo B A l Y ld tw wr HR.out hc hm HBr.out (by omega) hlt HK.out (by omega) (by omega))
              have hll : ((l.drop (n + 1)).take k).length = k:=by rw [List.length_take,List.length_drop];omega
              have HLL:=Lib.hid hll
              clear hTE hh1 hll
              go_wp2_with (first
               | (go_at_call 129;refine HT.out.mono ?_;rintro e w' ⟨rfl,rfl⟩)
               | (go_at_call 178;refine HLC.out.mono ?_;rintro e w' ⟨rfl,hr5,hb5⟩))
              go_roundw
              case rel =>
               have hYY : X ++ Nm.body (ls ++ [(l.drop (n + 1)).take k]) = Y ++ Nm.lab ((l.drop (n + 1)).take k):=by rw [body_snoc',← HY.out,List.append_assoc]
               have hYl : (Y ++ Nm.lab ((l.drop (n + 1)).take k)).length = Y.length + 1 + k:=by rw [List.length_append,Nm.lab_length,HLL.out];omega
               refine ⟨n + 1 + k,ls ++ [(l.drop (n + 1)).take k],ld,tw,congrArg (Value.int .i64) (by omega),by omega,by rw [hYY];exact hr5,HW.out.trans hb5,by rw [hYY,hYl];omega,?_⟩
               show ∀ acc o,_
               intro acc o
               rw [HTE.out,hYY,hYl]
               congr 2
               omega
              case measure=>simp [intOf];omega
  · have hTE : ∀ acc o,Pr.fin acc o (Pr.tk l b0 b0 (1 + X.length)) = .err 6:=fun acc o=>by
     rw [HF2.out acc o,Pr.tk_out hlt];rfl
    have HTE:=Lib.hid hTE
    rw [takeV_short (by omega) (by omega)] at hT
    have HT:=Lib.hid hT
    clear hTE hT hh1
    go_wp2_with (go_at_call 129;refine HT.out.mono ?_;rintro e w' ⟨rfl,rfl⟩)
    go_ret2
    exact ⟨HW.out,.inl ⟨6,rfl,rfl,HTE.out⟩⟩
end Go.Proofs.YtekafhogiambaaaGreatDoor
