/- Texts of the proofs, merged. -/
import Derived.Test.YtekafhogiambaaaGreatDoorZc12
import Derived.Test.YtekafhogiambaaaGreatDoorZc4
import Derived.Deep.CutRange
import Derived.Test.YtekafhogiambaaaGreatDoorZc3
import Derived.RangeFuncNested
import Derived.RangeFuncBound
import Derived.RangeFuncCalls
import Derived.RangeFuncLeaves
import Derived.Shelf.Abstract
import Derived.Shelf.RegionOpen
import Derived.OwnWalkIn
import Derived.TacticsInMore
import Derived.LoopNIn
import Derived.LoopIn
import Derived.Test.YtekafhogiambaaaGreatDoorZc2
import Derived.Maps.OwnSet
import Derived.Maps.Views
import Derived.Lib.AppendZeros
import Derived.OrdersIn
import Derived.OrdersHeld
import Derived.Test.YtekafhogiambaaaGreatDoorZc13
import Derived.Laws.Bits64b
import Derived.Test.YtekafhogiambaaaGreatDoorZc17
import Derived.Test.YtekafhogiambaaaGreatDoorZc7
import Derived.Deep.CutBlock
import Derived.MapKept
import Derived.Laws.StructEq
import Derived.Test.YtekafhogiambaaaGreatDoorZc9
import Derived.Laws.AppendOwnNone
import Derived.Lib.AppendStr
import Derived.Test.YtekafhogiambaaaGreatDoorZc18
import Derived.Test.YtekafhogiambaaaGreatDoorZc21
import Derived.Test.YtekafhogiambaaaGreatDoorZc10
import Derived.Deep.RegionWith
import Derived.Test.YtekafhogiambaaaGreatDoorZc36
import Derived.Deep.DeepAppendWide
import Derived.Laws.CopyOwn
import Derived.Test.YtekafhogiambaaaGreatDoorZc39
import Derived.Maps.AppendAt
import Derived.Deep.RegionHeld3
import Derived.BigQuiet
import Derived.Test.YtekafhogiambaaaGreatDoorZc11
set_option maxRecDepth 100000
namespace Go.Proofs.YtekafhogiambaaaGreatDoor
open Go.RowKit
namespace Rd
def showA (s : By) : By:=(s.flatMap fun c=>46 :: dec c.toNat).drop 1
def hex2 (c : UInt8) : By:=hex (c.toNat / 16) ++ hex (c.toNat % 16)
def showHex (s : By) : By := [92,35,32] ++ dec s.length ++ (if s = [] then [] else 32 :: s.flatMap hex2)
theorem dec_byte (c : UInt8) : (dec c.toNat).length ≤ 256:=by
 have:=dec_len c.toNat
 have:=c.toNat_lt
 omega
theorem flat_take {s : By} {k : Nat} (hk : k < s.length) (f : UInt8 → By) : (s.take (k + 1)).flatMap f = (s.take k).flatMap f ++ f (s[k]'hk):=by
 rw [List.take_add_one,List.getElem?_eq_getElem hk,List.flatMap_append]
 simp
end Rd
end Go.Proofs.YtekafhogiambaaaGreatDoor
namespace Go.Proofs.YtekafhogiambaaaGreatDoor
open Go.RowKit Go.Shelf
def isMapO : Obj → Bool
 | .map .. => true
 | _=>false
structure Keeps (lo : Nat) (W W' : World) : Prop where
 size : W.heap.size ≤ W'.heap.size
 same : ∀ (k : Nat) (o : Obj),lo ≤ k → W.heap[k]? = some o → isMapO o = false → W'.heap[k]? = some o
theorem Keeps.refl (lo : Nat) (W : World) : Keeps lo W W:=⟨Nat.le_refl _,fun _ _ _ h _=>h⟩
variable {F : Fence} {n : Nat} {P : Program}
end Go.Proofs.YtekafhogiambaaaGreatDoor
namespace Go.Proofs.YtekafhogiambaaaGreatDoor
open Go.RowKit Go.Maps
def Hold (D : DataW Unit) (t : Tab) : Prop :=
 IsMap D ∧ ∀ k : List UInt8,Maps.has D (.string k) = decide (0 ≤ findI t k) ∧ (0 ≤ findI t k → ∀ z,D.atKey (.string k) z = .lit (.int .u16 (findI t k)))
theorem Hold.nil : Hold (.map []) []:=⟨isMap_empty,fun k=>⟨rfl,fun h=>absurd h (by simp [findI])⟩⟩
structure Rg (g base : Nat) (w w' : World) : Prop where
 below : Below base w w'
 same : ∀ (k : Nat) (o : Obj),k ≠ g → w.heap[k]? = some o → isMapO o = false → w'.heap[k]? = some o
section
variable {g base : Nat} {w w' w2 : World}
theorem Rg.refl (g base : Nat) (w : World) : Rg g base w w:=⟨Below.refl _ _,fun _ _ _ h _=>h⟩
end
end Go.Proofs.YtekafhogiambaaaGreatDoor
namespace Go.Proofs.YtekafhogiambaaaGreatDoor
open Go.RowKit
theorem rd_hasN2 (d : Dv) {n : Nat} (h : n < 5) : Rd.hasN d.dt n = d.n n:=by
 rcases (by omega : n = 0 ∨ n = 1 ∨ n = 2 ∨ n = 3 ∨ n = 4) with rfl | rfl | rfl | rfl | rfl <;> rfl
end Go.Proofs.YtekafhogiambaaaGreatDoor
namespace Go.Proofs.YtekafhogiambaaaGreatDoor
open Go.RowKit
section
variable {w w' : World} {b b2 n n2 : Nat} {e e2 : TypeId} {v v2 : Value} {xs ys : List Value}
end
theorem wpList_append_new {P : Program} {w : World} {ops : Array Oper} {rest : List Oper} {o : Oper} {a : Act} {Q : Exit → Act → World → Prop} (hgd : o.guard = none) (s x : Operand) (t : TypeId)
 (ho : o.op = .call { callee:=.builtin .append,args:=#[s,x],argTypes:=#[t,t] })
 (e : TypeId) (i : TypeInfo) (z : Value) (bytes : Nat) (ht : P.underlying t = some (.slice e)) (hi : P.info? e = some i) (hz : i.zero = some z)
 (hsize : i.size = 1) (hby : i.bytes = bytes) (hzs : z.cells.size = 1)
 (base : Nat) (w0 : World) (v : Value) (n : Nat) (xs : List Value) (hs : a.eval s = v) (hown : w.ownsRow base e 1 v n xs) (hb : Below base w0 w) (hbase : base ≤ w0.heap.size)
 (us : List Value) (hu : ∀ u ∈ us,u.oneCell' = true) (et : TypeId) (m : Nat) (hm : us.length = m) (hx : a.eval x = .slice (some ⟨w.heap.size,0,none⟩) m m)
 (h63 : n + m ≤ 140737488355328) (hbytes : (n + m) * bytes ≤ 140737488355328)
 (h : ∀ v' w',w'.ownsRow base e 1 v' (n + m) (xs ++ us) → Below base w0 w' → (w.alloc (.cells us.toArray et)).grownBy w' v.ownBlock → wpList P ops Q rest (a.put o.dst v') w') : wpList P ops Q (o :: rest) a (w.alloc (.cells us.toArray et)):=by
 have hbs:=hb.size
 subst hm
 refine wpList_append_own _ hgd s x t ho base e i z 1 bytes ht hi hz hsize hby hzs (by decide) v n xs hs (hown.alloc _) ⟨w.heap.size,0,none⟩ us.length us.length us hx (by omega) ?_ hu (by unfold maxLen;omega) hbytes (by simp;omega) (fun v' w' h1 h2 _=>h v' w' h1 ?_ h2)
 · intro j u hj
   have hH:=Has.fresh w et us.toArray
   rw [addr_add,Nat.zero_add,hH.cell]
   simpa using hj
 · exact (hb.alloc (by omega) _).grown h2 (by simp;omega) (fun k hk=>(hown.lt k hk).1)
section
variable {base : Nat} {w w' w2 : World}
end
end Go.Proofs.YtekafhogiambaaaGreatDoor
namespace Go.Proofs.YtekafhogiambaaaGreatDoor
open Go.RowKit
namespace Rd
def put (T : Tab) (a t : Nat) (d : Dt) (hl ml : List By) : Tab × By :=
 if t = 2 ∨ t = 5 ∨ t = 12 then Pr.pw false T a hl
 else if t = 15 then ((Pr.pw false T (a + 2) hl).1,Oc.beb 2 d.n0 ++ (Pr.pw false T (a + 2) hl).2)
 else if t = 33 then ((Pr.pw true T (a + 6) hl).1,Oc.beb 2 d.n0 ++ (Oc.beb 2 d.n1 ++ (Oc.beb 2 d.n2 ++ (Pr.pw true T (a + 6) hl).2)))
 else if t = 6 then ((Pr.pw false (Pr.pw false T a hl).1 (a + (Pr.pw false T a hl).2.length) ml).1,(Pr.pw false T a hl).2 ++ ((Pr.pw false (Pr.pw false T a hl).1 (a + (Pr.pw false T a hl).2.length) ml).2 ++ (Oc.beb 4 d.n0 ++ (Oc.beb 4 d.n1 ++ (Oc.beb 4 d.n2 ++ (Oc.beb 4 d.n3 ++ Oc.beb 4 d.n4))))))
 else (T,d.raw)
end Rd
section
variable {w W : World} {g base : Nat} {T : Tab} {d : Dv} {l : List UInt8} {n c : Nat} {A : Option Addr}
end
end Go.Proofs.YtekafhogiambaaaGreatDoor
namespace Go.Proofs.YtekafhogiambaaaGreatDoor
open Go.RowKit
def ab : List (List UInt8) := [[97], [98]]
def cb : List (List UInt8) := [[99], [98]]
end Go.Proofs.YtekafhogiambaaaGreatDoor
namespace Go.Proofs.YtekafhogiambaaaGreatDoor
open Go.RowKit
def d0 : Dv:=⟨⟨#[]⟩,⟨#[1,97,0]⟩,⟨#[]⟩,10,0,0,0,0⟩
end Go.Proofs.YtekafhogiambaaaGreatDoor
namespace Go.Proofs.YtekafhogiambaaaGreatDoor
open Go.RowKit
def Chain (b : List UInt8) (ps : List Nat) (ns : List (List UInt8)) : Prop :=
 ps.length = ns.length + 1 ∧ ∀ j (h : j < ns.length), ∃ ls p q,ns[j] = Nm.glue ls ∧ (Nm.glue ls).length ≤ 255 ∧ ps[j]? = some p ∧ ps[j + 1]? = some q ∧ p ≤ b.length ∧ q ≤ b.length ∧ Pr.Rdb b p ls p q
theorem Chain.nil : Chain [] [0] []:=⟨rfl,fun j h=>absurd h (by simp)⟩
def BkP (T : Tab) (b : List UInt8) (ats : List Nat) (ns : List (List UInt8)) (i : Nat) : Prop :=
 Pr.Snd b T ∧ Chain b (ats ++ [b.length]) ns ∧ b.length ≤ 255 * i ∧ T.length ≤ 255 * i ∧ ns.length ≤ i ∧ ats.length = ns.length
theorem BkP.nil : BkP [] [] [] [] 0:=⟨Pr.Snd.nil _,Chain.nil,by simp,by simp,by simp,rfl⟩
section
variable {w W W' : World}
variable {T : Tab} {b : List UInt8} {ats : List Nat} {ns : List (List UInt8)} {vb vat vn : Value}
end
end Go.Proofs.YtekafhogiambaaaGreatDoor
namespace Go.Proofs.YtekafhogiambaaaGreatDoor
open Go.RowKit
def Apart (a b : Value) : Prop := ∀ g,a.ownBlock = some g → b.ownBlock ≠ some g
theorem Apart.symm {a b : Value} (h : Apart a b) : Apart b a:=fun g hb ha=>h g ha hb
theorem Apart.nil (a : Value) : Apart a (.slice none 0 0):=fun g _ e=>by simp [Value.ownBlock] at e
section
variable {base : Nat} {W W' : World}
end
section
variable {w W W' : World} {T : Tab} {la lb l : List UInt8} {va vb : Value}
end
section
variable {w W W' : World} {T : Tab} {l : List UInt8} {va vb : Value} {R : Nat}
end
end Go.Proofs.YtekafhogiambaaaGreatDoor
namespace Go.Proofs.YtekafhogiambaaaGreatDoor
open Go.RowKit
theorem fitAll_at {d : Rd.Dt} {l : List Nat} {k : Nat} (h : Rd.fitAll d l 0 = true) (hk : k < l.length) : Rd.fit (l[k]) d (Rd.nums (l.take k)) = true:=by
 have h1 : Rd.fitAll d (l.take (k + 1)) 0 = true:=by
  cases hc : Rd.fitAll d (l.take (k + 1)) 0 with
  | true=>rfl
  | false =>
   rw [Rd.fitAll_no hc] at h
   cases h
 rw [List.take_succ_eq_append_getElem hk,Rd.fitAll_snoc,Nat.zero_add,Bool.and_eq_true] at h1
 exact h1.2
def lbs (s : ByteArray) : List (List UInt8):=(Nm.split s.data.toList).getD []
theorem ok_raw {t : Nat} {d : Rd.Dt} (h : Rd.ok t d = true) : d.raw.length ≤ 65535:=by
 have h1 : Rd.rawOk t d.raw = true:=by
  unfold Rd.ok at h
  simp only [Bool.and_eq_true] at h
  exact h.1.1.1.1.1.1.1.1.1
 unfold Rd.rawOk at h1
 split at h1
 · have : d.raw = []:=by simpa using h1
   rw [this];simp
 split at h1
 · have : d.raw.length = 4:=by simpa using h1
   omega
 split at h1
 · have : d.raw.length = 16:=by simpa using h1
   omega
 split at h1
 · split at h1
   · exact of_decide_eq_true h1
   · cases h1
 · exact of_decide_eq_true h1
end Go.Proofs.YtekafhogiambaaaGreatDoor
namespace Go.Proofs.YtekafhogiambaaaGreatDoor
open Go.RowKit
section
variable {w W W' : World} {T : Tab} {la lb l : List UInt8} {va vb : Value}
end
section
variable {w W W' : World} {T : Tab} {l : List UInt8} {va vb : Value} {R t : Nat} {d : Dv}
def PdD (t : Nat) (d : Dv) : Prop:=t ≤ 65535 ∧ d.fits ∧ d.raw.size ≤ 8796093022208 ∧ d.host.size ≤ 140737488355328 ∧ d.mail.size ≤ 140737488355328
end
end Go.Proofs.YtekafhogiambaaaGreatDoor
namespace Go.Proofs.YtekafhogiambaaaGreatDoor
open Go.RowKit
def RChain (b : List UInt8) (ps : List Nat) (ks : List DIt) : Prop :=
 ps.length = ks.length + 1 ∧ ∀ j (h : j < ks.length), ∃ q : Nat → Nat,ps[j]? = some (q 0) ∧ ps[j + 1]? = some (q 7) ∧ PdD ks[j].ty ks[j].data ∧ Rd.ok ks[j].ty ks[j].data.dt = true ∧
  Rd.All b ks[j].data.dt (lbs ks[j].data.host) (lbs ks[j].data.mail) (Rd.parts ks[j].ty) q
theorem RChain.nil : RChain [] [0] []:=⟨rfl,fun j h=>absurd h (by simp)⟩
def RbP (T : Tab) (b : List UInt8) (ats : List Nat) (ks : List DIt) (i : Nat) : Prop :=
 Pr.Snd b T ∧ RChain b (ats ++ [b.length]) ks ∧ b.length ≤ 500000 * i ∧ T.length ≤ 1400 * i ∧ ks.length ≤ i ∧ ats.length = ks.length
theorem RbP.nil : RbP [] [] [] [] 0:=⟨Pr.Snd.nil _,RChain.nil,by simp,by simp,by simp,rfl⟩
theorem own_apartK {w : World} {b b2 k k2 n n2 : Nat} {e e2 : TypeId} {v v2 : Value} {xs ys : List Value} (h : w.ownsRow b e k v n xs) (h2 : w.ownsRow b2 e2 k2 v2 n2 ys) (hne : e2 ≠ e) : v2.ownBlock = none ∨ v2.ownBlock ≠ v.ownBlock:=by
 rcases h2.2 with ⟨rfl,_⟩ | ⟨g2,cap2,cur2,rfl,_,hg2,_⟩
 · exact .inl rfl
 · rcases h.2 with ⟨rfl,_⟩ | ⟨g,cap,cur,rfl,_,hg,_⟩
   · exact .inr (by simp [Value.ownBlock])
   · refine .inr fun e' => ?_
     obtain rfl : g2 = g:=by simpa [Value.ownBlock] using e'
     rw [hg] at hg2
     cases hg2
     exact hne rfl
theorem own_stillK {w w' : World} {b b2 k k2 n n2 : Nat} {e e2 : TypeId} {v v2 : Value} {xs ys : List Value} (h : w.ownsRow b e k v n xs) (h2 : w.ownsRow b2 e2 k2 v2 n2 ys) (hne : e2 ≠ e) (hg : w.grownBy w' v.ownBlock) : w'.ownsRow b2 e2 k2 v2 n2 ys:=h2.kept hg (own_apartK h h2 hne)
section
variable {w W W' : World} {T : Tab} {b : List UInt8} {ats : List Nat} {ks : List DIt} {vb vat vk : Value}
end
end Go.Proofs.YtekafhogiambaaaGreatDoor
namespace Go.Proofs.YtekafhogiambaaaGreatDoor
open Go.RowKit
theorem and15b (v : Nat) (hv : v ≤ 255) : bits BinOp.and IntKind.u8 (v : Int) 15 = ((v % 16 : Nat) : Int):=by
 have h:=bits_mask .u8 8 (by decide) (fun n h0 h1=>by rw [IntKind.wrap_u8];omega) 4 (by decide) (v : Int) (by omega) (by omega)
 have e : ((2 : Int) ^ 4 - 1) = 15:=by decide
 have e2 : ((2 : Int) ^ 4) = 16:=by decide
 rw [e,e2] at h
 rw [h]
 omega
theorem dgAll16 : ∀ j : Fin 16,((⟨#[48,49,50,51,52,53,54,55,56,57,97,98,99,100,101,102]⟩ : ByteArray)[j.1]'(by show j.1 < 16;omega)) = Rd.hx j.1:=by decide
theorem dg16 (r : Nat) (h : r < 16) : ((⟨#[48,49,50,51,52,53,54,55,56,57,97,98,99,100,101,102]⟩ : ByteArray)[r]'(by show r < 16;omega)) = Rd.hx r:=dgAll16 ⟨r,h⟩
def cw (l : List UInt8) : List (List UInt8) := [92,35] :: Rd.dec l.length :: (if l = [] then [] else [l.flatMap Rd.hex2])
theorem hex2_is (c : UInt8) : Rd.hex2 c = [Rd.hx (c.toNat / 16),Rd.hx (c.toNat % 16)]:=by
 have:=c.toNat_lt
 unfold Rd.hex2
 rw [Rd.hex_small (by omega),Rd.hex_small (by omega)]
 rfl
theorem hex2_len (l : List UInt8) : (l.flatMap Rd.hex2).length = 2 * l.length:=by
 induction l with
 | nil=>rfl
 | cons c r ih=>rw [List.flatMap_cons,List.length_append,ih,hex2_is];simp;omega
theorem own_built {w1 : World} {b : Nat} {e : TypeId} (xs : List Value) (hb : b ≤ w1.heap.size) (hm : xs.length ≤ maxLen) :
 (w1.alloc (.cells xs.toArray e)).ownsRow b e 1 (.slice (some ⟨w1.heap.size,0,none⟩) xs.length xs.length) xs.length xs :=
 ⟨by simp,.inr ⟨_,_,_,rfl,hb,heap_alloc_new w1 _,Nat.le_refl _,hm,by simp,by simp⟩⟩
theorem own_zeros {w : World} {g m : Nat} (h : Has w g 5 (List.replicate m (Value.int .u8 0)).toArray) (hm : m ≤ maxLen) : w.ownsRow g 5 1 (.slice (some ⟨g,0,none⟩) 0 m) 0 [] :=
 ⟨rfl,.inr ⟨g,m,_,rfl,Nat.le_refl _,h,Nat.zero_le _,hm,by simp,by simp⟩⟩
def CtW (w : World) (X : List Value) (g hi : Nat) (l : List UInt8) (k : Nat) (v : Value) (W : World) : Prop :=
 W.ownsRow g 5 1 v (2 * k) (bv ((l.take k).flatMap Rd.hex2)) ∧ (∃ b,v.ownBlock = some b ∧ (b = g ∨ hi + 1 ≤ b)) ∧ W.ownsRow w.heap.size 9 1 (.slice (some ⟨g - 1,0,none⟩) 2 2) 2 X ∧
  Bs W hi (hi + 1) (some ⟨hi,0,none⟩) l ∧ hi + 1 ≤ W.heap.size ∧ g < hi ∧ w.heap.size ≤ g ∧ Below w.heap.size w W
theorem CtW.low {w W W' : World} {X : List Value} {g hi k : Nat} {l : List UInt8} {v : Value} (h : CtW w X g hi l k v W) (hb : Below W.heap.size W W') : CtW w X g hi l k v W':=by
 obtain ⟨h1,h2,h3,h4,h5,h6,h7,h8⟩:=h
 exact ⟨own_below h1 hb (Nat.le_refl _),h2,own_below h3 hb (Nat.le_refl _),h4.keep (hb.mono h5),Nat.le_trans h5 hb.size,h6,h7,h8.trans (hb.mono h8.size)⟩
theorem CtW.step {w W W' : World} {X : List Value} {g hi k : Nat} {l : List UInt8} {v v' : Value} (h : CtW w X g hi l k v W) (hk : k < l.length)
 (hO : W'.ownsRow g 5 1 v' (2 * k + 2) (bv ((l.take k).flatMap Rd.hex2) ++ [.int .u8 ((Rd.hx ((l[k]'hk).toNat / 16)).toNat : Int),.int .u8 ((Rd.hx ((l[k]'hk).toNat % 16)).toNat : Int)])) (hG : W.grownBy W' v.ownBlock)
 (hat : v'.ownBlock = v.ownBlock ∨ v'.ownBlock = some W.heap.size) : CtW w X g hi l (k + 1) v' W':=by
 obtain ⟨h1,⟨b,h2,hb⟩,h3,h4,h5,h6,h7,h8⟩:=h
 refine ⟨?_,?_,own_stillK h1 h3 (by decide) hG,?_,Nat.le_trans h5 hG.size,h6,h7,h8.grown hG h8.size (fun j hj=>Nat.le_trans h7 (h1.lt j hj).1)⟩
 · rw [Rd.flat_take hk,hex2_is]
   exact own_to hO (by omega) (by simp [bv])
 · rcases hat with e | e
   · exact ⟨b,e.trans h2,hb⟩
   · exact ⟨_,e,.inr h5⟩
 · rw [h2] at hG
   exact h4.grown hG (by omega)
set_option maxHeartbeats 1000000 in
theorem counted_any (s : ByteArray) (hs : s.size ≤ 65535) : ManyW 57 s (cw s.data.toList):=by
 intro w hLA
 obtain ⟨i0,hi,hz0,hz1,hz2⟩:=info_parts Tryz.infoByte
 obtain ⟨iS,hiS,zS0,zS1,zS2⟩:=info_parts Tryz.infoString
 obtain ⟨l,hl⟩ : ∃ l,s.data.toList = l:=⟨_,rfl⟩
 have hlen : s.size = l.length:=by rw [← hl];simp
 have HI:=Lib.hid (itoa_any s.size w (by omega) hLA.2.1)
 rw [hl]
 rw [hlen] at HI
 have HL:=Lib.hid hl
 clear hl hLA
 by_cases h0 : l = []
 · subst h0
   obtain rfl : s = ⟨#[]⟩:=string_eq HL.out
   clear hlen HL
   go_enter Tryz.func57,Tryz.ntmps57
   go_wp2_with (go_at_call 59;refine HI.out.mono ?_;rintro e w1 ⟨rfl,B1⟩;have HB1:=Lib.hid B1;clear B1)
   go_ret
   exact ⟨_,rfl,own_built (svs (cw [])) HB1.out.size (by unfold maxLen;decide),HB1.out.alloc HB1.out.size _⟩
 · have hne : (l == []) = false:=by simpa using h0
   have hpos : 0 < l.length:=List.length_pos_iff.2 h0
   have hsne : (s.toList == []) = false:=by rw [ByteArray.toList_eq,HL.out];exact hne
   go_enter Tryz.func57,Tryz.ntmps57
   go_wp2_with (first
    | (go_at_call 59;refine HI.out.mono ?_;rintro e w1 ⟨rfl,B1⟩;have HB1:=Lib.hid B1;clear B1)
    | (at_make;refine wpList_make_lc rfl _ _ _ rfl _ i0 Tryz.underlying51 hi hz0 hz1 hz2 _ _ _ _ 0 (2 * l.length) rfl rfl rfl (by omega) (by omega) (by omega) ?_;intro w2 Z2 B2 S2;have HS2:=Lib.hid S2;have HB2:=Lib.hid B2;have HZ2:=Lib.hid Z2;clear S2 B2 Z2)
    | (refine wpList_convert_text rfl 9 51 (.tmp 18) rfl 5 Tryz.underlying9 Tryz.underlying51 Tryz.underlying5 s rfl ?_;intro c3 w3 hc3 b3 B3 z3;have HB3:=Lib.hid B3;have HS3:=Lib.hid b3;have HZ3:=Lib.hid z3;clear B3 b3 z3))
   have hz2' : w2.heap.size = w1.heap.size + 2:=by have:=HS2.out;simpa using this
   have HC0 : Hid (CtW w (svs [[92,35],Rd.dec l.length]) (w1.heap.size + 1) w2.heap.size l 0 (.slice (some ⟨w1.heap.size + 1,0,none⟩) 0 (2 * l.length)) w3):=by
    have hA:=own_built (w1:=w1) (b:=w.heap.size) (e:=9) (svs [[92,35],Rd.dec l.length]) HB1.out.size (by simp [svs,maxLen])
    have hZ:=HZ2.out
    have hE : (w1.alloc (.cells (svs [[92,35],Rd.dec l.length]).toArray 9)).heap.size = w1.heap.size + 1:=by simp
    have hB2 : Below (w1.heap.size + 1) (w1.alloc (.cells (svs [[92,35],Rd.dec l.length]).toArray 9)) w2:=by have:=HB2.out;rw [← hE];exact this
    have hZ' : Has w2 (w1.heap.size + 1) 5 (List.replicate (2 * l.length) (Value.int .u8 0)).toArray:=by rw [← hE];exact hZ
    have hb:=HS3.out
    rw [HL.out] at hb
    have hs3 : w3.heap.size = w2.heap.size + 1:=HZ3.out
    have hs1:=HB1.out.size
    exact ⟨own_below (own_zeros hZ' (by unfold maxLen;omega)) HB3.out (Nat.le_refl _),⟨_,rfl,.inl rfl⟩,own_below (own_below hA hB2 (by rw [hE];exact Nat.le_refl _)) HB3.out (Nat.le_refl _),hb,by omega,by omega,by omega,((HB1.out.alloc HB1.out.size _).trans (hB2.mono (by omega))).trans (HB3.out.mono (by omega))⟩
   clear hz2'
   go_loopw [4,21] (fun v i wr => ∃ k : Nat,i = .int .i64 k ∧ k ≤ l.length ∧ Hid (CtW w (svs [[92,35],Rd.dec l.length]) (w1.heap.size + 1) w2.heap.size l k v wr)) (fun _ i _=>l.length - (intOf i).toNat)
   case atStart=>exact ⟨0,rfl,Nat.zero_le _,HC0⟩
   case round =>
    obtain ⟨k,rfl,hk,HC⟩:=hrel
    by_cases hlt : k < l.length
    · obtain ⟨_,_,hx0,_,_,hcell⟩:=HC.out.2.2.2.1 (by omega)
      injection hx0 with hx0
      injection hx0 with hx1 hx2
      subst hx1 hx2
      have c0:=hcell k hlt
      rw [Nat.zero_add] at c0
      have c0d : wr.drew.cell? ⟨w2.heap.size,k,none⟩ = _:=c0
      have HST0:=fun (o : Obj) (v' : Value) (W' : World)=>(HC.out.low (((Below.refl _ _).drew).alloc (Nat.le_refl _) o)).step (W':=W') (v':=v') hlt
      obtain ⟨x,hx⟩ : ∃ x,(l[k]'hlt).toNat = x:=⟨_,rfl⟩
      have hxl : x ≤ 255:=by have:=(l[k]'hlt).toNat_lt;omega
      rw [hx] at c0 HST0
      have ha:=and15b x hxl
      obtain ⟨p,hp⟩ : ∃ p,x / 16 = p:=⟨_,rfl⟩
      have hpl : p < 16:=by omega
      have hdv : (x : Int) / 16 = (p : Int):=by omega
      have hd1:=dg16 p hpl
      obtain ⟨q,hq⟩ : ∃ q,x % 16 = q:=⟨_,rfl⟩
      have hql : q < 16:=by omega
      have b1 : (p : Int) < 16:=by omega
      have b2 : (q : Int) < 16:=by omega
      rw [hq] at ha HST0
      rw [hp] at HST0
      have HST:=Lib.hid HST0
      clear HST0
      have hd2:=dg16 q hql
      have hx':=Lib.hid hx
      have hp':=Lib.hid hp
      have hq':=Lib.hid hq
      clear hcell c0d hp hq
      obtain ⟨v',w',hr,hO,hG,_,hat⟩:=run_append_own_at (P:=Tryz.prog) (wr.drew.alloc (.cells #[.int .u8 ((Rd.hx p).toNat : Int),.int .u8 ((Rd.hx q).toNat : Int)] 5)) (w1.heap.size + 1) 51 51 5 i0 _ 1 1 Tryz.underlying51 hi hz0 hz1 hz2 rfl (by decide) _ (2 * k) _ ((HC.out.low (((Below.refl _ _).drew).alloc (Nat.le_refl _) _)).1) ⟨wr.heap.size,0,none⟩ 2 2 [.int .u8 ((Rd.hx p).toNat : Int),.int .u8 ((Rd.hx q).toNat : Int)] rfl (fun j u hj=>by
       have hH:=Has.fresh wr.drew 5 #[.int .u8 ((Rd.hx p).toNat : Int),.int .u8 ((Rd.hx q).toNat : Int)]
       have:=hH.cell j
       rw [addr_add,Nat.zero_add]
       exact this.trans (by simpa using hj)) (by simp [Value.oneCell']) (by unfold maxLen;omega) (by omega) (by have:=HC.out.2.2.2.2;simp;omega)
      have HR:=Lib.hid hr
      have HO:=Lib.hid hO
      have HG:=Lib.hid hG
      have HAT:=Lib.hid hat
      clear hr hO hG hat
      go_wp2
      refine wp_region_noPanic ?_
      refine wp_region_held_drew (S:=(fun _=>True)) (by kernel_rfl) ?hrb1 (fun hHeld=>?_)
      case hrb1=>trivial
      refine wpAnyH_take (i:=0) (oi:={ dst:=some 25,op:=Go.Op.move (Go.Operand.tmp 4),type:=51,pos := "show.go:81",after:=#[],guard:=none }) (v:=?vrb2) rfl (by kernel_rfl) (by kernel_rfl) (by kernel_rfl) (fun _ _ _ h=>h) (Or.inl ⟨by rfl,?hrb2⟩) (by assumption) ?_
      case hrb2 =>
       intro w hSw
       try dsimp only at hSw
       go_simp
       try with_reducible rfl
      try simp only [Act.put,List.setIfInBounds_toArray,List.set_cons_zero,List.set_cons_succ]
      refine wpAnyH_take (i:=1) (oi:={ dst:=some 26,op:=Go.Op.move (Go.Operand.tmp 6),type:=5,pos := "show.go:81",after:=#[],guard:=none }) (v:=?vrb3) rfl (by kernel_rfl) (by kernel_rfl) (by kernel_rfl) (fun _ _ _ h=>h) (Or.inl ⟨by rfl,?hrb3⟩) (by assumption) ?_
      case hrb3 =>
       intro w hSw
       try dsimp only at hSw
       go_simp
       try with_reducible rfl
      try simp only [Act.put,List.setIfInBounds_toArray,List.set_cons_zero,List.set_cons_succ]
      refine wpAnyH_take (i:=2) (oi:={ dst:=some 27,op:=Go.Op.binOp Go.BinOp.shr 5 (Go.Operand.tmp 26) (Go.Operand.const (Go.Value.int Go.IntKind.u64 4)) 139,type:=5,pos := "show.go:81",after:=#[{ on:=1,ground:=Go.Ground.data }],guard:=none }) (v:=?vrb4) rfl (by kernel_rfl) (by kernel_rfl) (by kernel_rfl) (fun _ _ _ h=>h) (Or.inl ⟨by rfl,?hrb4⟩) (by assumption) ?_
      case hrb4 =>
       intro w hSw
       try dsimp only at hSw
       go_simp
       try with_reducible rfl
      try simp only [Act.put,List.setIfInBounds_toArray,List.set_cons_zero,List.set_cons_succ]
      refine wpAnyH_take (i:=4) (oi:={ dst:=some 29,op:=Go.Op.move (Go.Operand.tmp 6),type:=5,pos := "show.go:81",after:=#[],guard:=none }) (v:=?vrb5) rfl (by kernel_rfl) (by kernel_rfl) (by kernel_rfl) (fun _ _ _ h=>h) (Or.inl ⟨by rfl,?hrb5⟩) (by assumption) ?_
      case hrb5 =>
       intro w hSw
       try dsimp only at hSw
       go_simp
       try with_reducible rfl
      try simp only [Act.put,List.setIfInBounds_toArray,List.set_cons_zero,List.set_cons_succ]
      refine wpAnyH_take (i:=5) (oi:={ dst:=some 30,op:=Go.Op.binOp Go.BinOp.and 5 (Go.Operand.tmp 29) (Go.Operand.const (Go.Value.int Go.IntKind.u8 15)) 5,type:=5,pos := "show.go:81",after:=#[{ on:=4,ground:=Go.Ground.data }],guard:=none }) (v:=?vrb6) rfl (by kernel_rfl) (by kernel_rfl) (by kernel_rfl) (fun _ _ _ h=>h) (Or.inl ⟨by rfl,?hrb6⟩) (by assumption) ?_
      case hrb6 =>
       intro w hSw
       try dsimp only at hSw
       go_simp
       try with_reducible rfl
      try simp only [Act.put,List.setIfInBounds_toArray,List.set_cons_zero,List.set_cons_succ]
      refine wpAnyH_ready (rs := [3,6]) (by kernel_rfl) (by simp) ?_
      refine AllReadyH.cons (o:={ dst:=some 28,op:=Go.Op.index 9 (Go.Operand.const (Go.Value.string { data:=#[48,49,50,51,52,53,54,55,56,57,97,98,99,100,101,102] })) (Go.Operand.tmp 27),type:=5,pos := "show.go:81",after:=#[{ on:=2,ground:=Go.Ground.data }],guard:=none }) rfl (fun K hK=>?srb7) ?mrb7
      case srb7 =>
       go_simp
       refine hK.out _ _ ?hrb8 (fun hHeld=>?_)
       case hrb8=>trivial
       clear hK K
       try simp only [Act.put,List.setIfInBounds_toArray,List.set_cons_zero,List.set_cons_succ]
       refine wpAnyH_ready (rs := [6]) (by kernel_rfl) (by simp) ?_
       refine AllReadyH.cons (o:={ dst:=some 31,op:=Go.Op.index 9 (Go.Operand.const (Go.Value.string { data:=#[48,49,50,51,52,53,54,55,56,57,97,98,99,100,101,102] })) (Go.Operand.tmp 30),type:=5,pos := "show.go:81",after:=#[{ on:=5,ground:=Go.Ground.data }],guard:=none }) rfl (fun K hK=>?_) AllReadyH.nil
       go_simp
       refine hK.out _ _ ?hrb9 (fun hHeld=>?_)
       case hrb9=>trivial
       clear hK K
       try simp only [Act.put,List.setIfInBounds_toArray,List.set_cons_zero,List.set_cons_succ]
       refine wpAnyH_ready (rs := [7]) (by kernel_rfl) (by simp) ?_
       refine AllReadyH.cons (o:={ dst:=some 32,op:=Go.Op.buildSlice 51 2 #[(0,Go.Operand.tmp 28),(1,Go.Operand.tmp 31)],type:=51,pos := "show.go:81",after:=#[{ on:=3,ground:=Go.Ground.data },{ on:=6,ground:=Go.Ground.data }],guard:=none }) rfl (fun K hK=>?_) AllReadyH.nil
       go_simp
       refine hK.out _ _ ?hrb10 (fun hHeld=>?_)
       case hrb10=>trivial
       clear hK K
       try simp only [Act.put,List.setIfInBounds_toArray,List.set_cons_zero,List.set_cons_succ]
       refine wpAnyH_ready (rs := [8]) (by kernel_rfl) (by simp) ?_
       refine AllReadyH.cons (o:={ dst:=some 33,op:=Go.Op.call { callee:=Go.Callee.builtin Go.Builtin.append,args:=#[Go.Operand.tmp 25,Go.Operand.tmp 32],argTypes:=#[51,51] },type:=51,pos := "show.go:81",after:=#[{ on:=0,ground:=Go.Ground.data },{ on:=7,ground:=Go.Ground.data }],guard:=none }) rfl (fun K hK=>?_) AllReadyH.nil
       (first | (refine oper_append_run (.tmp 25) (.tmp 32) 51 51 rfl _ _ rfl rfl HR.out ?_))
       refine hK.out _ _ ?hrb11 (fun hHeld=>?_)
       case hrb11=>trivial
       clear hK K
       try simp only [Act.put]
       refine wpAnyH_take (i:=9) (oi:={ dst:=some 4,op:=Go.Op.assign (Go.Operand.tmp 33),type:=51,pos := "show.go:81",after:=#[{ on:=8,ground:=Go.Ground.data },{ on:=8,ground:=Go.Ground.chain },{ on:=0,ground:=Go.Ground.phase },{ on:=1,ground:=Go.Ground.phase },{ on:=2,ground:=Go.Ground.phase },{ on:=3,ground:=Go.Ground.phase },{ on:=4,ground:=Go.Ground.phase },{ on:=5,ground:=Go.Ground.phase },{ on:=6,ground:=Go.Ground.phase },{ on:=7,ground:=Go.Ground.phase },{ on:=8,ground:=Go.Ground.phase }],guard:=none }) (v:=?vrb12) rfl (by kernel_rfl) (by kernel_rfl) (by kernel_rfl) (fun _ _ _ h=>h) (Or.inl ⟨by rfl,?hrb12⟩) (by assumption) ?_
       case hrb12 =>
        intro w hSw
        try dsimp only at hSw
        go_simp
        try with_reducible rfl
       try simp only [Act.put,List.setIfInBounds_toArray,List.set_cons_zero,List.set_cons_succ]
       refine wpAnyH_done (by kernel_rfl) ?_ _
       refine NoPanic.normal ?_
       go_wp2
       go_roundw
       case rel=>exact ⟨k + 1,by go_num,by omega,HST.out _ _ _ HO.out HG.out HAT.out⟩
       case measure=>simp [intOf];omega
      refine AllReadyH.cons (o:={ dst:=some 31,op:=Go.Op.index 9 (Go.Operand.const (Go.Value.string { data:=#[48,49,50,51,52,53,54,55,56,57,97,98,99,100,101,102] })) (Go.Operand.tmp 30),type:=5,pos := "show.go:81",after:=#[{ on:=5,ground:=Go.Ground.data }],guard:=none }) rfl (fun K hK=>?_) AllReadyH.nil
      go_simp
      refine hK.out _ _ ?hrb13 (fun hHeld=>?_)
      case hrb13=>trivial
      clear hK K
      try simp only [Act.put,List.setIfInBounds_toArray,List.set_cons_zero,List.set_cons_succ]
      refine wpAnyH_ready (rs := [3]) (by kernel_rfl) (by simp) ?_
      refine AllReadyH.cons (o:={ dst:=some 28,op:=Go.Op.index 9 (Go.Operand.const (Go.Value.string { data:=#[48,49,50,51,52,53,54,55,56,57,97,98,99,100,101,102] })) (Go.Operand.tmp 27),type:=5,pos := "show.go:81",after:=#[{ on:=2,ground:=Go.Ground.data }],guard:=none }) rfl (fun K hK=>?_) AllReadyH.nil
      go_simp
      refine hK.out _ _ ?hrb14 (fun hHeld=>?_)
      case hrb14=>trivial
      clear hK K
      try simp only [Act.put,List.setIfInBounds_toArray,List.set_cons_zero,List.set_cons_succ]
      refine wpAnyH_ready (rs := [7]) (by kernel_rfl) (by simp) ?_
      refine AllReadyH.cons (o:={ dst:=some 32,op:=Go.Op.buildSlice 51 2 #[(0,Go.Operand.tmp 28),(1,Go.Operand.tmp 31)],type:=51,pos := "show.go:81",after:=#[{ on:=3,ground:=Go.Ground.data },{ on:=6,ground:=Go.Ground.data }],guard:=none }) rfl (fun K hK=>?_) AllReadyH.nil
      go_simp
      refine hK.out _ _ ?hrb15 (fun hHeld=>?_)
      case hrb15=>trivial
      clear hK K
      try simp only [Act.put,List.setIfInBounds_toArray,List.set_cons_zero,List.set_cons_succ]
      refine wpAnyH_ready (rs := [8]) (by kernel_rfl) (by simp) ?_
      refine AllReadyH.cons (o:={ dst:=some 33,op:=Go.Op.call { callee:=Go.Callee.builtin Go.Builtin.append,args:=#[Go.Operand.tmp 25,Go.Operand.tmp 32],argTypes:=#[51,51] },type:=51,pos := "show.go:81",after:=#[{ on:=0,ground:=Go.Ground.data },{ on:=7,ground:=Go.Ground.data }],guard:=none }) rfl (fun K hK=>?_) AllReadyH.nil
      (first | (refine oper_append_run (.tmp 25) (.tmp 32) 51 51 rfl _ _ rfl rfl HR.out ?_))
      refine hK.out _ _ ?hrb16 (fun hHeld=>?_)
      case hrb16=>trivial
      clear hK K
      try simp only [Act.put]
      refine wpAnyH_take (i:=9) (oi:={ dst:=some 4,op:=Go.Op.assign (Go.Operand.tmp 33),type:=51,pos := "show.go:81",after:=#[{ on:=8,ground:=Go.Ground.data },{ on:=8,ground:=Go.Ground.chain },{ on:=0,ground:=Go.Ground.phase },{ on:=1,ground:=Go.Ground.phase },{ on:=2,ground:=Go.Ground.phase },{ on:=3,ground:=Go.Ground.phase },{ on:=4,ground:=Go.Ground.phase },{ on:=5,ground:=Go.Ground.phase },{ on:=6,ground:=Go.Ground.phase },{ on:=7,ground:=Go.Ground.phase },{ on:=8,ground:=Go.Ground.phase }],guard:=none }) (v:=?vrb17) rfl (by kernel_rfl) (by kernel_rfl) (by kernel_rfl) (fun _ _ _ h=>h) (Or.inl ⟨by rfl,?hrb17⟩) (by assumption) ?_
      case hrb17 =>
       intro w hSw
       try dsimp only at hSw
       go_simp
       try with_reducible rfl
      try simp only [Act.put,List.setIfInBounds_toArray,List.set_cons_zero,List.set_cons_succ]
      refine wpAnyH_done (by kernel_rfl) ?_ _
      refine NoPanic.normal ?_
      go_wp2
      go_roundw
      case rel=>exact ⟨k + 1,by go_num,by omega,HST.out _ _ _ HO.out HG.out HAT.out⟩
      case measure=>simp [intOf];omega
    · obtain rfl : k = l.length:=by omega
      have h1:=HC.out.1
      rw [List.take_length] at h1
      have hfl:=hex2_len l
      obtain ⟨ad,cp,rfl⟩:=own_form h1
      have HCV:=Lib.hid (run_convert_own wr 51 9 5 Tryz.underlying51 Tryz.underlying5 Tryz.underlying9 (w1.heap.size + 1) (2 * l.length) _ (l.flatMap Rd.hex2) h1)
      have HW:=Lib.hid HC.out.2.2.1
      have HB:=Lib.hid HC.out.2.2.2.2.2.2.2
      clear h1
      have hcv:=HCV.out
      go_wp2_with (at_builtin;refine wpList_append_new rfl (.tmp 35) (.tmp 38) _ rfl _ iS _ 16 Tryz.underlying45 hiS zS0 zS1 zS2 rfl w.heap.size w _ 2 _ rfl HW.out HB.out (Nat.le_refl _) [sv (l.flatMap Rd.hex2)] (by simp [Value.oneCell',sv]) _ 1 rfl rfl (by omega) (by omega) ?_;intro v9 w9 O9 B9 G9;have HO9:=Lib.hid O9;have HB9:=Lib.hid B9;clear O9 B9 G9)
      go_ret
      have hcw : svs (cw l) = svs [[92,35],Rd.dec l.length] ++ [sv (l.flatMap Rd.hex2)]:=by unfold cw;rw [if_neg h0];rfl
      have hcl : (cw l).length = 2 + 1:=by unfold cw;rw [if_neg h0];rfl
      exact ⟨_,rfl,own_to HO9.out hcl.symm hcw.symm,HB9.out⟩
end Go.Proofs.YtekafhogiambaaaGreatDoor
namespace Go.Proofs.YtekafhogiambaaaGreatDoor
open Go.RowKit
def qw (x : List UInt8) : List UInt8:=(34 :: Nm.esc true x) ++ [34]
theorem own_put {W : World} {b g n cp j : Nat} {e : TypeId} {xs : List Value} (h : W.ownsRow b e 1 (.slice (some ⟨g,0,none⟩) n cp) n xs) (u : Value) : (W.setCell ⟨g,j,none⟩ u).ownsRow b e 1 (.slice (some ⟨g,0,none⟩) n cp) n (xs.set j u):=by
 refine ⟨by rw [List.length_set];exact h.1,?_⟩
 rcases h.2 with ⟨hv,_⟩ | ⟨g',cap,cur,hv,hb,hg,hc,hm,hs,ht⟩
 · cases hv
 · injection hv with h1 h2 h3
   injection h1 with h1
   injection h1 with h1
   subst h1 h3
   refine .inr ⟨g,cp,cur.setIfInBounds j u,rfl,hb,heap_setCell_same W g j cur e u hg,hc,hm,by simpa using hs,?_⟩
   rw [Array.toList_setIfInBounds,List.take_set,ht]
theorem own_free {W : World} {b g n cp j : Nat} {e : TypeId} {xs : List Value} (h : W.ownsRow b e 1 (.slice (some ⟨g,0,none⟩) n cp) n xs) : W.frozen? ⟨g,j,none⟩ = false:=by
 rcases h.2 with ⟨hv,_⟩ | ⟨g',cap,cur,hv,hb,hg,_⟩
 · cases hv
 · injection hv with h1 h2 h3
   injection h1 with h1
   injection h1 with h1
   subst h1
   exact Has.free hg j
theorem tx_le : ∀ n (l : List UInt8) (ls : List (List UInt8)),l.length ≤ n → Rd.tx l = some ls → ∀ x ∈ ls,x.length ≤ l.length:=by
 intro n
 induction n with
 | zero =>
  intro l ls hl h
  obtain rfl : l = []:=List.eq_nil_of_length_eq_zero (by omega)
  rw [Rd.tx_nil] at h;cases h;simp
 | succ n ih =>
  intro l ls hl h
  cases l with
  | nil=>rw [Rd.tx_nil] at h;cases h;simp
  | cons k t =>
   by_cases hk : t.length < k.toNat
   · rw [Rd.tx_bad hk] at h;cases h
   · rw [Rd.tx_cons hk] at h
     obtain ⟨r,hr,rfl⟩:=Option.map_eq_some_iff.1 h
     have:=ih _ _ (by simp at hl ⊢;omega) hr
     intro x hx
     rcases List.mem_cons.1 hx with rfl | hx
     · rw [List.length_take,List.length_cons];omega
     · have:=this x hx
       simp at this ⊢
       omega
theorem put_at (ls : List (List UInt8)) {k : Nat} (hk : k < ls.length) : (svs ((ls.take k).map qw ++ ls.drop k)).set k (sv (qw (ls[k]'hk))) = svs ((ls.take (k + 1)).map qw ++ ls.drop (k + 1)):=by
 have hl : ((ls.take k).map qw).length = k:=by rw [List.length_map,List.length_take];omega
 rw [List.drop_eq_getElem_cons hk,List.take_succ_eq_append_getElem hk,List.map_append]
 unfold svs
 rw [← List.map_set,List.set_append_right _ _ (by omega),hl,Nat.sub_self,List.set_cons_zero]
 simp
theorem get_at (ls : List (List UInt8)) {k : Nat} (hk : k < ls.length) : (svs ((ls.take k).map qw ++ ls.drop k))[k]? = some (sv (ls[k]'hk)):=by
 have hl : ((ls.take k).map qw).length = k:=by rw [List.length_map,List.length_take];omega
 unfold svs
 rw [List.getElem?_map,List.getElem?_append_right (by omega),hl,Nat.sub_self,List.drop_eq_getElem_cons hk]
 rfl
set_option maxHeartbeats 1000000 in
theorem quoted_any (s : ByteArray) (ls : List (List UInt8)) (hs : s.size ≤ 65535) (htx : Rd.tx s.data.toList = some ls) (hne : ls ≠ []) : ManyW 56 s (ls.map qw):=by
 intro w hLA
 have hlen : s.data.toList.length = s.size:=by simp
 have hle:=tx_le _ _ _ (Nat.le_refl _) htx
 have hll:=Rd.tx_len htx
 have hT:=textsOf_any s w (by omega)
 rw [htx] at hT
 have HT:=Lib.hid hT
 have HLE:=Lib.hid hle
 have hpos : 0 < ls.length:=List.length_pos_iff.2 hne
 clear hT htx hLA hle
 go_enter Tryz.func56,Tryz.ntmps56
 go_wp2_with (go_at_call 78;refine HT.out.mono ?_;rintro e w1 ⟨v,B1,rfl,O1⟩;obtain ⟨g,cp,rfl,hcp,hgb,hgl⟩:=own_pos O1 hpos;have HB1:=Lib.hid B1;have HO1:=Lib.hid O1;clear B1 O1)
 clear HT
 go_loopw [14] (fun i wr => ∃ k : Nat,i = .int .i64 k ∧ k ≤ ls.length ∧ Hid (wr.ownsRow w.heap.size 9 1 (.slice (some ⟨g,0,none⟩) ls.length cp) ls.length (svs ((ls.take k).map qw ++ ls.drop k))) ∧ Hid (Below w.heap.size w wr)) (fun i _=>ls.length - (intOf i).toNat)
 case atStart=>exact ⟨0,rfl,Nat.zero_le _,by simpa using HO1,HB1⟩
 case round =>
  obtain ⟨k,rfl,hk,HO,HB⟩:=hrel
  by_cases hlt : k < ls.length
  · have hbs:=HB.out.size
    have hck:=own_cells HO.out k _ (get_at ls hlt)
    have hxl : (ls[k]'hlt).length ≤ 65535:=by have:=HLE.out _ (List.getElem_mem hlt);omega
    have HPA:=Lib.hid (put_at ls hlt)
    obtain ⟨x,hx⟩ : ∃ x,ls[k]'hlt = x:=⟨_,rfl⟩
    rw [hx] at hck hxl HPA
    clear hx
    have hel:=Nm.esc_len true x
    have HE:=Lib.hid (Escape_any ⟨x.toArray⟩ true wr (by show x.toArray.size ≤ _;simp;omega))
    have hxx : (⟨x.toArray⟩ : ByteArray).data.toList = x:=rfl
    rw [hxx] at HE
    obtain ⟨y,hy⟩ : ∃ y,Nm.esc true x = y:=⟨_,rfl⟩
    have HQ : Hid (sv (qw x) = .string ((⟨#[34]⟩ ++ ⟨y.toArray⟩) ++ ⟨#[34]⟩)):=by
     rw [Hid,← hy]
     exact congrArg Value.string (string_eq (by simp [qw])).symm
    rw [hy] at HE hel
    clear hy hxx
    go_wp2_with (go_at_call 50;refine HE.out.mono ?_;rintro e w5 ⟨rfl,B5⟩;have HO5:=Lib.hid (own_below HO.out B5 (Nat.le_refl _));have HB5:=Lib.hid (HB.out.trans (B5.mono hbs));have ck5:=(B5.cell (p:=⟨g,k,none⟩) (World.block_lt_of_cell? _ _ hck)).trans hck;have fk5:=own_free (j:=k) HO5.out;clear B5)
    go_roundw
    case rel=>exact ⟨k + 1,by go_num,by omega,by rw [← HPA.out,HQ.out];exact own_put HO5.out _,HB5.out.setCell hgb _⟩
    case measure=>simp [intOf];omega
  · obtain rfl : k = ls.length:=by omega
    have HO2 : Hid (wr.ownsRow w.heap.size 9 1 (.slice (some ⟨g,0,none⟩) ls.length cp) (ls.map qw).length (svs (ls.map qw))):=by
     have:=HO.out
     rw [List.take_length,List.drop_length,List.append_nil] at this
     rw [Hid,List.length_map]
     exact this
    clear HO
    go_wp2
    go_ret
    exact ⟨_,rfl,HO2.out,HB.out⟩
end Go.Proofs.YtekafhogiambaaaGreatDoor
namespace Go.Proofs.YtekafhogiambaaaGreatDoor
open Go.RowKit
theorem join_cons2 (x y : List UInt8) (r : List (List UInt8)) (s : List UInt8) : Lib.join (x :: y :: r) s = x ++ (s ++ Lib.join (y :: r) s):=by
 unfold Lib.join
 rw [List.intercalate,List.intercalate,List.intersperse]
 all_goals first
  | (intro h;cases h)
  | simp
theorem join_len {s : List UInt8} {m : Nat} : ∀ (ws : List (List UInt8)),(∀ x ∈ ws,x.length ≤ m) → (Lib.join ws s).length ≤ ws.length * (m + s.length)
 | [],_=>by simp [Lib.join]
 | [x],h=>by
  have h1:=h x (by simp)
  have e : Lib.join [x] s = x:=by simp [Lib.join,List.intercalate]
  rw [e]
  simp
  omega
 | x :: y :: r,h=>by
  have h1:=h x (by simp)
  have h2:=join_len (s:=s) (y :: r) (fun z hz=>h z (List.mem_cons_of_mem _ hz))
  rw [join_cons2,List.length_cons,Nat.succ_mul]
  simp only [List.length_append]
  omega
theorem join_by {W : World} {b g cp : Nat} {ws : List (List UInt8)} {sep : ByteArray} {ss : List UInt8} (hss : sep.data.toList = ss) (h : W.ownsRow b 9 1 (.slice (some ⟨g,0,none⟩) ws.length cp) ws.length (svs ws)) (hg : g < W.heap.size) (hc : ws.length ≤ cp) (hl : ws.length ≤ 140737488355328) (hj : (Lib.join ws ss).length ≤ 140737488355328) :
 Calls Tryz.prog 29 #[.slice (some ⟨g,0,none⟩) ws.length cp,.string sep] W fun e w' => e = .returned (sv (Lib.join ws ss)) ∧ Below W.heap.size W w':=by
 subst hss
 have hm : (ws.map fun l=>(⟨l.toArray⟩ : ByteArray)).map (·.data.toList) = ws:=by
  rw [List.map_map]
  exact (List.map_congr_left (fun _ _=>rfl)).trans (List.map_id _)
 have:=Tryz.strings_Join g 0 cp (ws.map fun l=>(⟨l.toArray⟩ : ByteArray)) sep W (fun j x hx=>by
  have hj2 : j < ws.length:=by have:=(List.getElem?_eq_some_iff.1 hx).1;simpa using this
  rw [Nat.zero_add]
  have hx2 : x = ⟨(ws[j]).toArray⟩:=by simp [hj2] at hx;exact hx.symm
  rw [hx2]
  exact own_cells h j _ (by simp [svs,hj2])) hg (by simpa using hl) (by simpa using hc) (by rw [hm];exact hj)
 rw [hm,List.length_map] at this
 exact this
namespace Rd
def nms (l : By) : List By:=l.map fun c=>dec c.toNat
theorem nms_take {l : By} {k : Nat} (hk : k < l.length) : nms (l.take (k + 1)) = nms (l.take k) ++ [dec (l[k]).toNat]:=by
 unfold nms
 rw [List.take_succ_eq_append_getElem hk,List.map_append]
 rfl
theorem nms_len (l : By) : ∀ x ∈ nms l,x.length ≤ 256:=by
 intro x hx
 obtain ⟨c,_,rfl⟩:=List.mem_map.1 hx
 have h1:=dec_len c.toNat
 have h2:=c.toNat_lt
 omega
end Rd
set_option maxHeartbeats 4000000 in
theorem dotted_any (s : ByteArray) (h0 : 0 < s.size) (hsz : s.size ≤ 100000) : OneW 54 s (Lib.join (Rd.nms s.data.toList) [46]):=by
 intro w hLA
 obtain ⟨i0,hi,hz0,hz1,hz2⟩:=info_parts Tryz.infoString
 obtain ⟨l,hl⟩ : ∃ l,s.data.toList = l:=⟨_,rfl⟩
 have hlen : s.size = l.length:=by rw [← hl];simp
 rw [hl]
 have hjl:=join_len (s := [46]) (Rd.nms l) (Rd.nms_len l)
 have hnl : (Rd.nms l).length = l.length:=by simp [Rd.nms]
 have hj1 : (Lib.join (Rd.nms l) [46]).length ≤ 140737488355328:=by
  rw [hnl,show ([46] : List UInt8).length = 1 from rfl] at hjl
  omega
 obtain ⟨R,hR⟩ : ∃ R,Lib.join (Rd.nms l) [46] = R:=⟨_,rfl⟩
 rw [hR]
 have HRES:=Lib.hid hR
 have HJ1:=Lib.hid hj1
 have HL:=Lib.hid hl
 have HLA:=Lib.hid hLA
 clear hl hR hLA hjl hj1
 go_enter Tryz.func54,Tryz.ntmps54
 go_wp2_with (refine wpList_convert_text rfl 9 51 (.tmp 6) rfl 5 Tryz.underlying9 Tryz.underlying51 Tryz.underlying5 s rfl ?_;intro c w1 hc hb1 hB1 hz;rw [HL.out] at hb1;have HBS:=Lib.hid hb1;have HB1:=Lib.hid hB1;have HZ:=Lib.hid hz;clear hb1 hB1 hz)
 have hwl : w.heap.size + 1 = w1.heap.size:=HZ.out.symm
 have HIT : ∀ (u : Nat) (W : World),u ≤ 4294967295 → Below w1.heap.size w1 W → Hid (Calls Tryz.prog 59 #[.int .i64 u] W fun e w' => e = .returned (sv (Rd.dec u)) ∧ Below W.heap.size W w'):=fun u W hu hb=>itoa_any u W hu ((HLA.out.below HB1.out (Nat.le_refl _)).below hb (by omega)).2.1
 go_loopw [3,9] (fun v i wr => ∃ k : Nat,i = .int .i64 k ∧ k ≤ l.length ∧ Hid (wr.ownsRow w1.heap.size 9 1 v k (svs (Rd.nms (l.take k)))) ∧ Hid (Below w1.heap.size w1 wr)) (fun _ i _=>l.length - (intOf i).toNat)
 case atStart=>exact ⟨0,rfl,Nat.zero_le _,World.ownsRow_nil _ _ _ _,Below.refl _ _⟩
 case round =>
  obtain ⟨k,rfl,hk,HO,HB⟩:=hrel
  have hbs:=HB.out.size
  by_cases hlt : k < l.length
  · have hm8 : (l[k]).toNat < 256:=(l[k]).toNat_lt
    have cb : wr.cell? ⟨w.heap.size,k,none⟩ = some (.int .u8 (l[k].toNat : Int)):=by
     obtain ⟨g,o,e,_,_,hcell⟩:=(HBS.out.keep (HB.out.mono (by omega))) (by omega)
     cases e
     have:=hcell k hlt
     rw [Nat.zero_add] at this
     exact this
    have HTK:=Lib.hid (Rd.nms_take hlt)
    obtain ⟨ad,cp,hv⟩:=own_form HO.out
    subst hv
    generalize (l[k]).toNat = u at *
    have HI:=HIT u
    go_wp2_with (first
     | (go_at_call 59;refine (HI _ (by omega) HB.out).out.mono ?_;rintro e w2 ⟨rfl,B2⟩;have HB2:=Lib.hid (HB.out.trans (B2.mono hbs));have HO2:=Lib.hid (own_below HO.out B2 (Nat.le_refl _));have hs2:=B2.size;clear B2)
     | (at_builtin;refine wpList_append_own _ rfl (.tmp 13) (.tmp 17) _ rfl w1.heap.size 9 i0 _ 1 16 Tryz.underlying45 hi hz0 hz1 hz2 rfl (by decide) _ _ (svs (Rd.nms (l.take k))) rfl (HO2.out.alloc _) ⟨w2.heap.size,0,none⟩ 1 1 [sv (Rd.dec u)] rfl rfl ?c1 ?c2 ?c3 ?c4 ?c5 (fun v' w4 hown1 hg1 _=>?_)))
    case c1=>exact cell_one_new _ _ _
    case c2=>simp [Value.oneCell']
    case c3=>unfold maxLen;omega
    case c4=>omega
    case c5=>simp;omega
    go_roundw
    case rel=>exact ⟨k + 1,by go_num,by omega,by rw [HTK.out,svs_append];exact hown1,(HB2.out.alloc (by omega) _).grown hg1 (by simp;omega) (fun j hj=>(HO2.out.lt j hj).1)⟩
    case measure=>simp [intOf];omega
  · obtain rfl : k = l.length:=by omega
    have HO':=HO.out
    rw [List.take_of_length_le (Nat.le_refl _)] at HO'
    obtain ⟨g,cp,rfl,hcp,hg1,hg2⟩:=own_pos HO' (by omega)
    have HC':=(join_by (sep:=⟨#[46]⟩) (ss := [46]) (cp:=cp) rfl (by rw [hnl];exact HO') hg2 (by rw [hnl];exact hcp) (by rw [hnl];omega) HJ1.out)
    rw [HRES.out,hnl] at HC'
    have HC:=Lib.hid HC'
    clear HO HO' HC'
    go_wp2_with (go_at_call 29;refine HC.out.mono ?_;rintro e w5 ⟨rfl,B5⟩)
    go_ret
    exact ⟨rfl,HB1.out.trans ((HB.out.trans (B5.mono hbs)).mono (by omega))⟩
end Go.Proofs.YtekafhogiambaaaGreatDoor
namespace Go.Proofs.YtekafhogiambaaaGreatDoor.Rd
theorem join_cons {α : Type} (f : α → By) (c : UInt8) (a : α) (r : List α) : Lib.join ((a :: r).map f) [c] = f a ++ r.flatMap fun x=>c :: f x:=by
 induction r generalizing a with
 | nil=>simp [Lib.join,List.intercalate]
 | cons b r ih =>
  rw [List.map_cons,List.map_cons,join_cons2,← List.map_cons,ih]
  simp
theorem join_flat {α : Type} (f : α → By) (c : UInt8) (l : List α) : Lib.join (l.map f) [c] = (l.flatMap fun x=>c :: f x).drop 1:=by
 cases l with
 | nil=>simp [Lib.join,List.intercalate]
 | cons a r =>
  rw [join_cons]
  simp
theorem nms_show (l : By) : Lib.join (nms l) [46] = showA l:=join_flat _ _ _
end Go.Proofs.YtekafhogiambaaaGreatDoor.Rd
namespace Go.Proofs.YtekafhogiambaaaGreatDoor
open Go.RowKit
namespace Rd
def pair (s : By) (j : Nat) : Nat:=256 * (s[2 * j]?.getD 0).toNat + (s[2 * j + 1]?.getD 0).toNat
def pairs (s : By) (k : Nat) : By:=(List.range k).flatMap fun j=>58 :: hex (pair s j)
end Rd
end Go.Proofs.YtekafhogiambaaaGreatDoor
namespace Go.Proofs.YtekafhogiambaaaGreatDoor
open Go.RowKit
namespace Rd
theorem pair_lt (s : By) (j : Nat) : pair s j ≤ 65535:=by
 unfold pair
 have h1:=(s[2 * j]?.getD 0).toNat_lt
 have h2:=(s[2 * j + 1]?.getD 0).toNat_lt
 omega
theorem pair_num {l : By} {j : Nat} (h : 2 * j + 1 < l.length) : Oc.num ((l.drop (2 * j)).take 2) = pair l j:=by
 rw [List.drop_eq_getElem_cons (by omega : 2 * j < l.length),List.drop_eq_getElem_cons h,List.take_succ_cons,List.take_succ_cons,List.take_zero]
 unfold pair
 rw [List.getElem?_eq_getElem h,List.getElem?_eq_getElem (by omega : 2 * j < l.length)]
 simp [Oc.num]
 omega
def gw (l : By) (j : Nat) : List By:=(List.range j).map fun i=>hex (pair l i)
theorem gw_succ (l : By) (j : Nat) : gw l (j + 1) = gw l j ++ [hex (pair l j)]:=by
 unfold gw
 rw [List.range_succ,List.map_append]
 rfl
theorem gw_join (l : By) (j : Nat) : Lib.join (gw l j) [58] = (pairs l j).drop 1:=join_flat _ _ _
theorem gw_len (l : By) (j : Nat) : ∀ x ∈ gw l j,x.length ≤ 65536:=by
 intro x hx
 obtain ⟨i,_,rfl⟩:=List.mem_map.1 hx
 have h1:=hex_len (pair l i)
 have h2:=pair_lt l i
 omega
end Rd
set_option maxHeartbeats 600000 in
theorem grouped_any (s : ByteArray) (hsz : s.size = 16) (hf : ∀ (u : Nat) (W : World),u ≤ 65535 → LayA W → Calls Tryz.prog 34 #[.int .u64 u,.int .i64 16] W fun e w' => e = .returned (sv (Rd.hex u)) ∧ Below W.heap.size W w') :
 OneW 55 s ((Rd.pairs s.data.toList 8).drop 1):=by
 intro w hLA
 obtain ⟨i0,hi,hz0,hz1,hz2⟩:=info_parts Tryz.infoString
 obtain ⟨l,hl⟩ : ∃ l,s.data.toList = l:=⟨_,rfl⟩
 have hlen : s.size = l.length:=by rw [← hl];simp
 have hl16 : l.length = 16:=by omega
 rw [hl,← Rd.gw_join]
 have hjl:=join_len (s := [58]) (Rd.gw l 8) (Rd.gw_len l 8)
 have hnl : (Rd.gw l 8).length = 8:=by simp [Rd.gw]
 have hj1 : (Lib.join (Rd.gw l 8) [58]).length ≤ 140737488355328:=by
  rw [hnl,show ([58] : List UInt8).length = 1 from rfl] at hjl
  omega
 obtain ⟨R,hR⟩ : ∃ R,Lib.join (Rd.gw l 8) [58] = R:=⟨_,rfl⟩
 rw [hR]
 have HRES:=Lib.hid hR
 have HJ1:=Lib.hid hj1
 have HL:=Lib.hid hl
 have HLA:=Lib.hid hLA
 have HF:=Lib.hid hf
 have HN8:=Lib.hid hnl
 clear hl hR hLA hjl hj1 hf hnl
 go_enter Tryz.func55,Tryz.ntmps55
 go_wp2_with (refine wpList_convert_text rfl 9 51 (.tmp 9) rfl 5 Tryz.underlying9 Tryz.underlying51 Tryz.underlying5 s rfl ?_;intro c w1 hc hb1 hB1 hz;rw [HL.out] at hb1;have HBS:=Lib.hid hb1;have HB1:=Lib.hid hB1;have HZ:=Lib.hid hz;clear hb1 hB1 hz)
 have hwl : w.heap.size + 1 = w1.heap.size:=HZ.out.symm
 have HFU:=Lib.hid (fun (u : Nat) (W : World) (hu : u ≤ 65535) (hb : Below w1.heap.size w1 W)=>HF.out u W hu ((HLA.out.below HB1.out (Nat.le_refl _)).below hb (by omega)))
 have HTK:=Lib.hid (fun (j : Nat) (W : World) (hj : 2 * j + 2 ≤ l.length) (hb : Below w1.heap.size w1 W)=>take_u16_ok _ l c (2 * j) W (by omega) (by omega) w.heap.size (w.heap.size + 1) (HBS.out.keep (hb.mono (by omega))) hj)
 go_loopw [3,5] (fun v i wr => ∃ k : Nat,i = .int .i64 ((2 * k : Nat) : Int) ∧ k ≤ 8 ∧ Hid (wr.ownsRow w1.heap.size 9 1 v k (svs (Rd.gw l k))) ∧ Hid (Below w1.heap.size w1 wr)) (fun _ i _=>16 - (intOf i).toNat)
 case atStart=>exact ⟨0,rfl,Nat.zero_le _,World.ownsRow_nil _ _ _ _,Below.refl _ _⟩
 case round =>
  obtain ⟨k,rfl,hk,HO,HB⟩:=hrel
  have hbs:=HB.out.size
  by_cases hlt : k < 8
  · have htk:=HTK.out k wr (by omega) HB.out
    rw [Rd.pair_num (by omega),hl16] at htk
    have HT:=Lib.hid htk
    clear htk
    have hpl:=Rd.pair_lt l k
    have HGW:=Lib.hid (Rd.gw_succ l k)
    obtain ⟨ad,cp,hv⟩:=own_form HO.out
    subst hv
    generalize Rd.pair l k = u at *
    go_wp2_with (first
     | (go_at_call 82;refine HT.out.mono ?_;rintro e w2 ⟨rfl,rfl⟩)
     | (go_at_call 34;refine (HFU.out u _ hpl HB.out).mono ?_;rintro e w2 ⟨rfl,B2⟩;have HB2:=Lib.hid (HB.out.trans (B2.mono hbs));have HO2:=Lib.hid (own_below HO.out B2 (Nat.le_refl _));have hs2:=B2.size;clear B2)
     | (at_builtin;refine wpList_append_own _ rfl (.tmp 24) (.tmp 28) _ rfl w1.heap.size 9 i0 _ 1 16 Tryz.underlying45 hi hz0 hz1 hz2 rfl (by decide) _ _ (svs (Rd.gw l k)) rfl (HO2.out.alloc _) ⟨w2.heap.size,0,none⟩ 1 1 [sv (Rd.hex u)] rfl rfl ?c1 ?c2 ?c3 ?c4 ?c5 (fun v' w4 hown1 hg1 _=>?_)))
    case c1=>exact cell_one_new _ _ _
    case c2=>simp [Value.oneCell']
    case c3=>unfold maxLen;omega
    case c4=>omega
    case c5=>simp;omega
    go_roundw
    case rel=>exact ⟨k + 1,by go_num,by omega,by rw [HGW.out,svs_append];exact hown1,(HB2.out.alloc (by omega) _).grown hg1 (by simp;omega) (fun j hj=>(HO2.out.lt j hj).1)⟩
    case measure=>simp [intOf];omega
  · obtain rfl : k = 8:=by omega
    have HO':=HO.out
    obtain ⟨g,cp,rfl,hcp,hg1,hg2⟩:=own_pos HO' (by omega)
    have HC':=(join_by (sep:=⟨#[58]⟩) (ss := [58]) (cp:=cp) rfl (by rw [HN8.out];exact HO') hg2 (by rw [HN8.out];exact hcp) (by rw [HN8.out];omega) HJ1.out)
    rw [HRES.out,HN8.out] at HC'
    have HC:=Lib.hid HC'
    clear HO HO' HC'
    go_wp2_with (go_at_call 29;refine HC.out.mono ?_;rintro e w5 ⟨rfl,B5⟩)
    go_ret
    exact ⟨rfl,HB1.out.trans ((HB.out.trans (B5.mono hbs)).mono (by omega))⟩
end Go.Proofs.YtekafhogiambaaaGreatDoor
namespace Go.Proofs.YtekafhogiambaaaGreatDoor
open Go.RowKit
namespace Rd
def numw (d : Dv) (k : Nat) : By:=(List.range k).flatMap fun j=>32 :: dec (d.n j)
theorem dec_len2 : ∀ n : Nat,n ≤ 4294967295 → (dec n).length ≤ 10:=by
 have step : ∀ (b n : Nat),n < 10 ^ (b + 1) → (dec n).length ≤ b + 1:=by
  intro b
  induction b with
  | zero=>intro n h;rw [dec_small (by omega)];simp
  | succ b ih =>
   intro n h
   by_cases hs : n < 10
   · rw [dec_small hs];simp
   · rw [dec_more hs]
     have:=ih (n / 10) (by rw [Nat.pow_succ] at h;omega)
     simp
     omega
 intro n h
 exact step 9 n (by omega)
end Rd
end Go.Proofs.YtekafhogiambaaaGreatDoor
namespace Go.Proofs.YtekafhogiambaaaGreatDoor
open Go.RowKit
namespace Rd
def quoted (E : By → By) (ls : List By) : By:=ls.flatMap fun l => [32,34] ++ E l ++ [34]
end Rd
end Go.Proofs.YtekafhogiambaaaGreatDoor
namespace Go.Proofs.YtekafhogiambaaaGreatDoor
open Go.RowKit
theorem keep_cell {W W1 : World} {p : Addr} {v : Value} (hb : Below W.heap.size W W1) (h : W.cell? p = some v) : W1.cell? p = some v:=(hb.cell (block_lt_of_cell h)).trans h
theorem keep_below {B : Nat} {w W W1 : World} (hb : Below W.heap.size W W1) (h : Below B w W) (hB : B ≤ w.heap.size) : Below B w W1:=h.trans (hb.mono (Nat.le_trans hB h.size))
end Go.Proofs.YtekafhogiambaaaGreatDoor
namespace Go.Proofs.YtekafhogiambaaaGreatDoor
open Go.RowKit
def Ahead (l : List UInt8) (f : Nat) (ps : List (List UInt8)) : Prop :=
 f ≤ l.length ∧ ps.length ≤ f ∧ (f < l.length ∨ f = 0 → Nm.pieces l = (ps ++ (Nm.pieces (l.drop f)).1,(Nm.pieces (l.drop f)).2)) ∧ (f = l.length → 0 < f → Nm.pieces l = (ps,true))
theorem Ahead.zero (l : List UInt8) : Ahead l 0 []:=⟨Nat.zero_le _,by simp,fun _=>by simp,fun _ h=>by omega⟩
end Go.Proofs.YtekafhogiambaaaGreatDoor
