/- Texts of the proofs, merged. -/
import Derived.Test.YtekafhogiambaaaGreatDoorZc11
import Derived.Test.YtekafhogiambaaaGreatDoorZc1
import Derived.Test.YtekafhogiambaaaGreatDoorZc4
import Derived.Test.YtekafhogiambaaaGreatDoorZc2
import Derived.Test.YtekafhogiambaaaGreatDoorZc3
import Derived.Test.YtekafhogiambaaaGreatDoorZc7
import Derived.Test.YtekafhogiambaaaGreatDoorZc10
import Derived.Lib.ParseIntB
set_option maxRecDepth 100000
namespace Go.Proofs.YtekafhogiambaaaGreatDoor.Rr
open Go.Proofs.YtekafhogiambaaaGreatDoor.Nm (sgn cmpB cmpN)
abbrev By:=List UInt8
def lx (x y : Int) : Int:=if x = 0 then y else x
structure Ky where
 nm : By
 ty : Nat
 cl : Nat
structure Rc where
 ky : Ky
 ttl : Nat
 d : Rd.Dt
end Go.Proofs.YtekafhogiambaaaGreatDoor.Rr
namespace Go.Proofs.YtekafhogiambaaaGreatDoor
open Go.RowKit
structure Kv where
 nm : ByteArray
 ty : Nat
 cl : Nat
def Kv.val (k : Kv) : Value:=.agg #[.string k.nm,.int .u16 k.ty,.int .u16 k.cl]
def Kv.ky (k : Kv) : Rr.Ky:=⟨k.nm.data.toList,k.ty,k.cl⟩
structure Rv where
 nm : ByteArray
 ty : Nat
 cl : Nat
 ttl : Nat
 d : Dv
namespace Rv
def cells (r : Rv) : Array Value:=#[.string r.nm,.int .u16 r.ty,.int .u16 r.cl,.int .u32 r.ttl,.string r.d.raw,.string r.d.host,.string r.d.mail,.int .u32 r.d.n0,.int .u32 r.d.n1,.int .u32 r.d.n2,.int .u32 r.d.n3,.int .u32 r.d.n4]
def val (r : Rv) : Value:=.agg r.cells
def kv (r : Rv) : Kv:=⟨r.nm,r.ty,r.cl⟩
def rc (r : Rv) : Rr.Rc:=⟨r.kv.ky,r.ttl,r.d.dt⟩
def short (r : Rv) : Prop:=r.nm.size ≤ 140737488355328 ∧ r.d.host.size ≤ 140737488355328 ∧ r.d.mail.size ≤ 140737488355328
end Rv
end Go.Proofs.YtekafhogiambaaaGreatDoor
namespace Go.Proofs.YtekafhogiambaaaGreatDoor
open Go.RowKit
def rvOf (r : Ma.Rc) : Rv:=⟨⟨r.nm.toArray⟩,r.ty,1,r.ttl,dv r.d⟩
def mcl (r : Ma.Rc) : List Value:=(rvOf r).cells.toList
theorem mcl_len (r : Ma.Rc) : (mcl r).length = 12:=rfl
theorem mcl_one (r : Ma.Rc) : ∀ v ∈ mcl r,v.oneCell' = true:=by
 intro v hv
 simp only [mcl,Rv.cells,List.mem_cons,List.not_mem_nil,or_false] at hv
 rcases hv with rfl | rfl | rfl | rfl | rfl | rfl | rfl | rfl | rfl | rfl | rfl | rfl <;> rfl
def mrC (o : Rd.By) (ttl : Nat) (fx : Bool) (vr : Value) (f : Tk.Wd) (vw : Value) : Array Value :=
 #[sv o,.int .u32 ttl,.bool fx,vr,sv f.text,.bool f.quoted,.int .i64 f.line,.int .i64 f.col,vw]
def Wp (w : World) (hi : Nat) (v : Value) (ws : List Tk.Wd) : Prop :=
 ∃ A c,v = .slice A ws.length c ∧ ws.length ≤ c ∧ c ≤ 9223372036854775807 ∧ (∀ x ∈ ws,x.text.length ≤ 262144) ∧
  (0 < ws.length → ∃ g o,A = some ⟨g,o,none⟩ ∧ g < hi ∧ ∀ j (h : j < ws.length),w.rangeAt g (o + j * 4) (wc ws[j]))
section
variable {w w' : World} {hi g : Nat} {v : Value} {ws : List Tk.Wd} {x f : Tk.Wd} {s s' : Ma.S}
theorem Wp.keep (h : Wp w hi v ws) (hb : Below hi w w') : Wp w' hi v ws:=by
 obtain ⟨A,c,h1,h2,h3,h4,h5⟩:=h
 refine ⟨A,c,h1,h2,h3,h4,fun h0=>?_⟩
 obtain ⟨g,o,e1,e2,e3⟩:=h5 h0
 exact ⟨g,o,e1,e2,fun j hj=>range_below hb e2 (e3 j hj)⟩
theorem Wp.words2 (h : Wp w hi v ws) : Ws w hi v (ws.map Ma.w2):=by
 obtain ⟨A,c,h1,h2,h3,h4,h5⟩:=h
 refine ⟨A,c,by rw [List.length_map];exact h1,by rw [List.length_map];exact h2,h3,fun x hx=>?_,fun h0=>?_⟩
 · obtain ⟨y,hy,rfl⟩:=List.mem_map.1 hx
   have:=h4 y hy
   simp only [Ma.w2]
   omega
 · rw [List.length_map] at h0
   obtain ⟨g,o,e1,e2,e3⟩:=h5 h0
   refine ⟨g,o,e1,e2,fun j hj=>?_⟩
   rw [List.length_map] at hj
   refine ⟨ws[j].line,ws[j].col,?_⟩
   rw [List.getElem_map]
   exact e3 j hj
theorem Wp.head (h : Wp w hi v (x :: ws)) : ∃ (g o c : Nat),v = .slice (some ⟨g,o,none⟩) (ws.length + 1) c ∧ ws.length + 1 ≤ c ∧ c ≤ 9223372036854775807 ∧ g < hi ∧ w.rangeAt g o (wc x) ∧ Wp w hi (.slice (if c = 1 then some ⟨g,o,none⟩ else some ⟨g,o + 4,none⟩) ws.length (c - 1)) ws ∧ x.text.length ≤ 262144:=by
 obtain ⟨A,c,h1,h2,h3,h4,h5⟩:=h
 obtain ⟨g,o,rfl,e2,e3⟩:=h5 (by simp)
 have e4:=e3 0 (by simp)
 rw [List.length_cons] at h1 h2
 refine ⟨g,o,c,h1,h2,h3,e2,by simpa using e4,⟨_,_,rfl,by omega,by omega,fun y hy=>h4 y (by simp [hy]),fun h0=>?_⟩,h4 x (by simp)⟩
 rw [if_neg (by omega)]
 refine ⟨g,o + 4,rfl,e2,fun j hj=>?_⟩
 have h:=e3 (j + 1) (by simp;omega)
 have e : o + 4 + j * 4 = o + (j + 1) * 4:=by omega
 rw [e]
 simpa using h
theorem wc_cells {g o : Nat} (h : w.rangeAt g o (wc x)) : w.cell? ⟨g,o,none⟩ = some (sv x.text) ∧ w.cell? ⟨g,o + 1,none⟩ = some (.bool x.quoted) ∧ w.cell? ⟨g,o + 2,none⟩ = some (.int .i64 x.line) ∧ w.cell? ⟨g,o + 3,none⟩ = some (.int .i64 x.col) :=
 ⟨h 0 _ rfl,h 1 _ rfl,h 2 _ rfl,h 3 _ rfl⟩
def Ga (w : World) (B : Nat) : Prop:=Gl w B ∧ LayP w ∧ LayD w ∧ 1 < B ∧ 4 < B
theorem Ga.below (h : Ga w hi) (hb : Below hi w w') : Ga w' hi:=by
 obtain ⟨h1,⟨t,h2⟩,⟨u,h3⟩,h4,h5⟩:=h
 exact ⟨h1.below hb,⟨t,h2.below hb h4⟩,⟨u,h3.below hb h5⟩,h4,h5⟩
theorem Ga.more (h : Ga w hi) {hi' : Nat} (hh : hi ≤ hi') : Ga w hi':=by
 obtain ⟨⟨a,b,c,d,e,f⟩,h2,h3,h4,h5⟩:=h
 exact ⟨⟨a,b,c,by omega,by omega,by omega⟩,h2,h3,by omega,by omega⟩
theorem Ga.layA (h : Ga w hi) : LayA w:=⟨h.1.2.1,h.2.1,h.2.2.1⟩
theorem Ga.lay (h : Ga w hi) : Lay w:=h.1.1
theorem own_belowB {k n B base : Nat} {e : TypeId} {ys : List Value} (h : w.ownsRow base e k v n ys) (hb : Below B w w') (hv : ∀ q,v.ownBlock = some q → q < B) : w'.ownsRow base e k v n ys:=by
 refine ⟨h.1,?_⟩
 rcases h.2 with h0 | ⟨q,cap,cur,rfl,hbg,hg,hr⟩
 · exact .inl h0
 · exact .inr ⟨q,cap,cur,rfl,hbg,(hb.block q (hv q rfl)).trans hg,hr⟩
def MM (w : World) (g : Nat) (hi : Nat × Nat) (s : Ma.S) (f : Tk.Wd) (ws : List Tk.Wd) : Prop :=
 ∃ vr vw,Has w g 72 (mrC s.o s.ttl s.fx vr f vw) ∧ Own mcl 12 w (g + 1) 39 vr s.recs ∧ Wp w hi.1 vw ws ∧ hi.1 ≤ g ∧ Ga w hi.1 ∧ g < hi.2 ∧ hi.2 ≤ w.heap.size ∧ ∀ q,vr.ownBlock = some q → q < hi.2
end
section
variable {w w' : World} {g : Nat} {hi : Nat × Nat} {v : Value} {ws : List Tk.Wd} {x f : Tk.Wd} {s s' : Ma.S}
theorem MM.lt (h : MM w g hi s f ws) : g < w.heap.size:=by
 obtain ⟨_,_,h1,_⟩:=h
 exact h1.lt
theorem MM.ga (h : MM w g hi s f ws) : Ga w hi.1:=by
 obtain ⟨_,_,_,_,_,_,h5,_⟩:=h
 exact h5
theorem MM.le (h : MM w g hi s f ws) : hi.1 ≤ g:=by
 obtain ⟨_,_,_,_,_,h4,_⟩:=h
 exact h4
theorem MM.top (h : MM w g hi s f ws) : g < hi.2 ∧ hi.2 ≤ w.heap.size:=by
 obtain ⟨_,_,_,_,_,_,_,h6,h7,_⟩:=h
 exact ⟨h6,h7⟩
theorem MM.keepB (h : MM w g hi s f ws) (hb : Below hi.2 w w') : MM w' g hi s f ws:=by
 obtain ⟨vr,vw,h1,h2,h3,h4,h5,h6,h7,h8⟩:=h
 exact ⟨vr,vw,h1.below hb h6,own_belowB h2 hb h8,h3.keep (hb.mono (by omega)),h4,h5.below (hb.mono (by omega)),h6,Nat.le_trans h7 hb.size,h8⟩
theorem MM.keep (h : MM w g hi s f ws) (hb : Below w.heap.size w w') : MM w' g hi s f ws:=h.keepB (hb.mono h.top.2)
theorem below_set_ge {B : Nat} (w : World) (p : Addr) (hp : B ≤ p.block) (u : Value) : Below B w (w.setCell p u):=(Below.refl B w).setCell hp u
theorem MM.put {i : Nat} {u : Value} (h : MM w g hi s f ws) (hc : ∀ vr vw,(mrC s.o s.ttl s.fx vr f vw).setIfInBounds i u = mrC s'.o s'.ttl s'.fx vr f vw) (hr : s'.recs = s.recs) : MM (w.setCell ⟨g,i,none⟩ u) g hi s' f ws:=by
 obtain ⟨vr,vw,h1,h2,h3,h4,h5,h6,h7,h8⟩:=h
 have hb : Below hi.1 w (w.setCell ⟨g,i,none⟩ u):=below_set_ge w ⟨g,i,none⟩ h4 u
 have hh:=h1.set i u
 rw [hc vr vw] at hh
 refine ⟨vr,vw,hh,?_,h3.keep hb,h4,h5.below hb,h6,by rw [World.size_setCell];exact h7,h8⟩
 rw [hr]
 exact row_kept h2 (Nat.lt_succ_self g) (grown_set (World.grownBy.refl w _) i u)
theorem MM.putW {ws' : List Tk.Wd} {v' : Value} (h : MM w g hi s f ws) (hw : Wp w hi.1 v' ws') : MM (w.setCell ⟨g,8,none⟩ v') g hi s f ws':=by
 obtain ⟨vr,vw,h1,h2,h3,h4,h5,h6,h7,h8⟩:=h
 have hb : Below hi.1 w (w.setCell ⟨g,8,none⟩ v'):=below_set_ge w ⟨g,8,none⟩ h4 v'
 have hh:=h1.set 8 v'
 exact ⟨vr,v',hh,row_kept h2 (Nat.lt_succ_self g) (grown_set (World.grownBy.refl w _) 8 v'),hw.keep hb,h4,h5.below hb,h6,by rw [World.size_setCell];exact h7,h8⟩
theorem MM.has (h : MM w g hi s f ws) : ∃ vr vw,Has w g 72 (mrC s.o s.ttl s.fx vr f vw):=by
 obtain ⟨vr,vw,h1,_⟩:=h
 exact ⟨vr,vw,h1⟩
theorem MM.wp (h : MM w g hi s f ws) : ∃ vr vw,Has w g 72 (mrC s.o s.ttl s.fx vr f vw) ∧ Wp w hi.1 vw ws:=by
 obtain ⟨vr,vw,h1,_,h3,_⟩:=h
 exact ⟨vr,vw,h1,h3⟩
end
structure Mk (s : Ma.S) : Prop where
 o : Rd.nm s.o = true
 os : s.o.length ≤ 140737488355328
 ttl : s.ttl ≤ 2147483647
 recs : s.recs.length ≤ 4096
 nm : ∀ r ∈ s.recs,r.nm.length ≤ 140737488355328
end Go.Proofs.YtekafhogiambaaaGreatDoor
namespace Go.Proofs.YtekafhogiambaaaGreatDoor
open Go.RowKit
theorem sv_cat (a b : List UInt8) : Value.string ((⟨a.toArray⟩ : ByteArray) ++ ⟨b.toArray⟩) = sv (a ++ b):=by
 show Value.string _ = Value.string _
 congr 1
namespace Rd
def ty : Nat → Nat
 | 0=>1
 | 1=>2
 | 2=>5
 | 3=>6
 | 4=>12
 | 5=>15
 | 6=>16
 | 7=>28
 | _=>33
def txt : Nat → By
 | 0 => [65]
 | 1 => [78,83]
 | 2 => [67,78,65,77,69]
 | 3 => [83,79,65]
 | 4 => [80,84,82]
 | 5 => [77,88]
 | 6 => [84,88,84]
 | 7 => [65,65,65,65]
 | _ => [83,82,86]
theorem nine {p : Nat → Prop} {k : Nat} (hk : k < 9) (h0 : p 0) (h1 : p 1) (h2 : p 2) (h3 : p 3) (h4 : p 4) (h5 : p 5) (h6 : p 6) (h7 : p 7) (h8 : p 8) : p k:=by
 match k,hk with
 | 0,_=>exact h0
 | 1,_=>exact h1
 | 2,_=>exact h2
 | 3,_=>exact h3
 | 4,_=>exact h4
 | 5,_=>exact h5
 | 6,_=>exact h6
 | 7,_=>exact h7
 | 8,_=>exact h8
theorem ty_le (k : Nat) : ty k ≤ 33:=by unfold ty;split <;> omega
theorem txt_len (k : Nat) : (txt k).length ≤ 5:=by unfold txt;split <;> simp
theorem tyText_at {k : Nat} (hk : k < 9) : tyText (ty k) = txt k:=nine (p:=fun k=>tyText (ty k) = txt k) hk rfl rfl rfl rfl rfl rfl rfl rfl rfl
theorem tyText_no {t : Nat} (h : ∀ j,j < 9 → ty j ≠ t) : tyText t = [84,89,80,69] ++ dec t:=by
 have k0 : (1 == t) = false:=beq_eq_false_iff_ne.2 (h 0 (by omega))
 have k1 : (2 == t) = false:=beq_eq_false_iff_ne.2 (h 1 (by omega))
 have k2 : (5 == t) = false:=beq_eq_false_iff_ne.2 (h 2 (by omega))
 have k3 : (6 == t) = false:=beq_eq_false_iff_ne.2 (h 3 (by omega))
 have k4 : (12 == t) = false:=beq_eq_false_iff_ne.2 (h 4 (by omega))
 have k5 : (15 == t) = false:=beq_eq_false_iff_ne.2 (h 5 (by omega))
 have k6 : (16 == t) = false:=beq_eq_false_iff_ne.2 (h 6 (by omega))
 have k7 : (28 == t) = false:=beq_eq_false_iff_ne.2 (h 7 (by omega))
 have k8 : (33 == t) = false:=beq_eq_false_iff_ne.2 (h 8 (by omega))
 unfold tyText tyTab
 simp only [List.find?,k0,k1,k2,k3,k4,k5,k6,k7,k8]
theorem tyOf_at {k : Nat} {s : By} (hk : k < 9) (h : Nm.fold s = Nm.fold (txt k)) : tyOf s = some (ty k):=by
 unfold tyOf
 rw [h]
 exact nine (p:=fun k=>(match tyTab.find? (fun x=>Nm.fold x.2 == Nm.fold (txt k)) with | some x=>some x.1 | none=>if (Nm.fold (txt k)).take 4 = [116,121,112,101] then num (s.drop 4) 65535 else none) = some (ty k)) hk rfl rfl rfl rfl rfl rfl rfl rfl rfl
theorem tyOf_no {s : By} (h : ∀ j,j < 9 → Nm.fold s ≠ Nm.fold (txt j)) : tyOf s = if (Nm.fold s).take 4 = [116,121,112,101] then num (s.drop 4) 65535 else none:=by
 have k0 : (Nm.fold [65] == Nm.fold s) = false:=beq_eq_false_iff_ne.2 (fun e=>h 0 (by omega) e.symm)
 have k1 : (Nm.fold [78,83] == Nm.fold s) = false:=beq_eq_false_iff_ne.2 (fun e=>h 1 (by omega) e.symm)
 have k2 : (Nm.fold [67,78,65,77,69] == Nm.fold s) = false:=beq_eq_false_iff_ne.2 (fun e=>h 2 (by omega) e.symm)
 have k3 : (Nm.fold [83,79,65] == Nm.fold s) = false:=beq_eq_false_iff_ne.2 (fun e=>h 3 (by omega) e.symm)
 have k4 : (Nm.fold [80,84,82] == Nm.fold s) = false:=beq_eq_false_iff_ne.2 (fun e=>h 4 (by omega) e.symm)
 have k5 : (Nm.fold [77,88] == Nm.fold s) = false:=beq_eq_false_iff_ne.2 (fun e=>h 5 (by omega) e.symm)
 have k6 : (Nm.fold [84,88,84] == Nm.fold s) = false:=beq_eq_false_iff_ne.2 (fun e=>h 6 (by omega) e.symm)
 have k7 : (Nm.fold [65,65,65,65] == Nm.fold s) = false:=beq_eq_false_iff_ne.2 (fun e=>h 7 (by omega) e.symm)
 have k8 : (Nm.fold [83,82,86] == Nm.fold s) = false:=beq_eq_false_iff_ne.2 (fun e=>h 8 (by omega) e.symm)
 unfold tyOf tyTab
 simp only [List.find?,k0,k1,k2,k3,k4,k5,k6,k7,k8]
end Rd
end Go.Proofs.YtekafhogiambaaaGreatDoor
namespace Go.Proofs.YtekafhogiambaaaGreatDoor
open Go.RowKit
namespace Rd
def val (l : By) : Nat:=l.foldl (fun v c=>10 * v + (c.toNat - 48)) 0
def digs (l : By) : Bool:=l.all (fun c=>decide (48 ≤ c.toNat) && decide (c.toNat ≤ 57))
theorem num_bad {s : By} {most : Nat} (h : s.length = 0 ∨ (1 < s.length ∧ s.head? = some 48) ∨ 12 < s.length) : num s most = none:=by unfold num;rw [if_pos h]
theorem num_nodig {s : By} {most : Nat} (h : digs s = false) : num s most = none:=by
 unfold num
 split
 · rfl
 · unfold digs at h
   rw [h];rfl
theorem num_dig {s : By} {most : Nat} (h0 : ¬ (s.length = 0 ∨ (1 < s.length ∧ s.head? = some 48) ∨ 12 < s.length)) (h : digs s = true) : num s most = if most < val s then none else some (val s):=by
 unfold num
 rw [if_neg h0]
 unfold digs at h
 rw [h]
 rfl
theorem head_of {s : ByteArray} (h : 0 < s.size) : s.data.toList.head? = some s[0]:=by
 rw [rd_cons_of s h];rfl
end Rd
end Go.Proofs.YtekafhogiambaaaGreatDoor
namespace Go.Proofs.YtekafhogiambaaaGreatDoor.Rd
def vl (a : Nat) (l : By) : Nat:=l.foldl (fun v c=>10 * v + (c.toNat - 48)) a
theorem vl_ge : ∀ (l : By) (a : Nat),a * 10 ^ l.length ≤ vl a l:=by
 intro l
 induction l with
 | nil=>intro a;simp [vl]
 | cons c r ih =>
  intro a
  show a * 10 ^ (r.length + 1) ≤ vl (10 * a + (c.toNat - 48)) r
  refine Nat.le_trans ?_ (ih _)
  rw [Nat.pow_succ,Nat.mul_comm (10 ^ r.length) 10,← Nat.mul_assoc,Nat.mul_comm a 10]
  exact Nat.mul_le_mul_right _ (by omega)
theorem vl_le : ∀ (l : By) (a : Nat),a ≤ vl a l:=fun l a=>Nat.le_trans (Nat.le_mul_of_pos_right a (Nat.pow_pos (by omega))) (vl_ge l a)
theorem parseM_iff {M : Nat} (hM : M ≤ 65535) : ∀ (l : By) (a v : Nat),a ≤ M → (Lib.parseUintM M a l = .ok v ↔ digs l = true ∧ vl a l = v ∧ v ≤ M):=by
 intro l
 induction l with
 | nil =>
  intro a v ha
  constructor
  · intro h
    have h2 : (Lib.NumEnd.ok a : Lib.NumEnd Nat) = .ok v:=h
    injection h2 with h2
    subst h2
    exact ⟨rfl,rfl,ha⟩
  · rintro ⟨_,h,_⟩
    have h2 : a = v:=h
    subst h2
    rfl
 | cons c r ih =>
  intro a v ha
  rw [Lib.parseUintM]
  have hd : digs (c :: r) = ((decide (48 ≤ c.toNat) && decide (c.toNat ≤ 57)) && digs r):=rfl
  have hv : vl a (c :: r) = vl (10 * a + (c.toNat - 48)) r:=rfl
  by_cases hc : 48 ≤ c.toNat ∧ c.toNat ≤ 57
  · rw [if_pos hc,if_neg (by omega),hd,hv,show a * 10 = 10 * a from by omega]
    have h9 : (decide (48 ≤ c.toNat) && decide (c.toNat ≤ 57)) = true:=by simpa using hc
    rw [h9,Bool.true_and]
    by_cases hm : M < 10 * a + (c.toNat - 48)
    · rw [if_pos hm]
      constructor
      · intro h;cases h
      · rintro ⟨_,h,h2⟩
        have:=vl_le r (10 * a + (c.toNat - 48))
        omega
    · rw [if_neg hm]
      exact ih _ _ (by omega)
  · rw [if_neg hc,hd]
    have h9 : (decide (48 ≤ c.toNat) && decide (c.toNat ≤ 57)) = false:=by
     rw [Bool.eq_false_iff];simpa using hc
    rw [h9]
    constructor
    · intro h;cases h
    · rintro ⟨h,_⟩;cases h
theorem parse16 {l : By} (hz : ¬ (1 < l.length ∧ l.head? = some 48)) (v : Nat) : Lib.parseUintB 16 l = .ok v ↔ num l 65535 = some v:=by
 unfold Lib.parseUintB
 by_cases h0 : l = []
 · subst h0
   rw [if_pos rfl,num_bad (.inl rfl)]
   constructor <;> intro h <;> cases h
 · rw [if_neg h0,parseM_iff (M:=2 ^ 16 - 1) (by decide) l 0 v (by decide)]
   have hl0 : l.length ≠ 0:=fun e=>h0 (List.eq_nil_of_length_eq_zero e)
   have hvv : vl 0 l = val l:=rfl
   rw [hvv]
   by_cases hd : digs l = true
   · by_cases h12 : 12 < l.length
     · rw [num_bad (.inr (.inr h12))]
       constructor
       · rintro ⟨_,h,h2⟩
         exfalso
         match l,hl0,hz,hd,h12,h with
         | c :: r,_,hz,hd,h12,h =>
          have hc : 48 ≤ c.toNat ∧ c.toNat ≤ 57:=by
           have:=List.all_eq_true.1 hd c (by simp)
           simpa using this
          have hne : c.toNat ≠ 48:=fun e=>hz ⟨by omega,by simp only [List.head?_cons];congr 1;exact UInt8.toNat_inj.1 e⟩
          have hg:=vl_ge r (10 * 0 + (c.toNat - 48))
          have hval : val (c :: r) = vl (10 * 0 + (c.toNat - 48)) r:=rfl
          have hp : 10 ^ 12 ≤ 10 ^ r.length:=Nat.pow_le_pow_right (by omega) (by simp at h12;omega)
          have h1 : 1 * 10 ^ r.length ≤ (10 * 0 + (c.toNat - 48)) * 10 ^ r.length:=Nat.mul_le_mul_right _ (by omega)
          have hq : (10 : Nat) ^ 12 = 1000000000000:=by decide
          have hq2 : (2 : Nat) ^ 16 - 1 = 65535:=by decide
          omega
       · intro h;cases h
     · rw [num_dig (by intro h;rcases h with h | h | h;exact hl0 h;exact hz h;exact h12 h) hd]
       have hq2 : (2 : Nat) ^ 16 - 1 = 65535:=by decide
       rw [hq2]
       by_cases hm : 65535 < val l
       · rw [if_pos hm]
         constructor
         · rintro ⟨_,h,h2⟩;omega
         · intro h;cases h
       · rw [if_neg hm]
         constructor
         · rintro ⟨_,h,_⟩;rw [h]
         · intro h;injection h with h;exact ⟨hd,h,by omega⟩
   · rw [num_nodig (by simpa using hd)]
     constructor
     · rintro ⟨h,_⟩;exact absurd h hd
     · intro h;cases h
theorem small_dig (c : UInt8) : (48 ≤ (Nm.small c).toNat ∧ (Nm.small c).toNat ≤ 57) ↔ (48 ≤ c.toNat ∧ c.toNat ≤ 57):=by
 rw [Nm.small_val]
 split <;> omega
theorem small_id (c : UInt8) (h : 48 ≤ c.toNat ∧ c.toNat ≤ 57) : Nm.small c = c:=by
 refine UInt8.toNat_inj.1 ?_
 rw [Nm.small_val,if_neg (by omega)]
theorem num_fold (l : By) (m : Nat) : num (Nm.fold l) m = num l m:=by
 have hd : digs (Nm.fold l) = digs l:=by
  unfold digs Nm.fold
  rw [List.all_map]
  congr 1
  funext c
  simp only [Function.comp_apply]
  rw [Bool.eq_iff_iff]
  simpa using small_dig c
 by_cases h : digs l = true
 · have : Nm.fold l = l:=by
    unfold Nm.fold
    refine (List.map_congr_left (g:=id) (fun c hc=>?_)).trans (List.map_id _)
    have:=List.all_eq_true.1 h c hc
    exact small_id c (by simpa using this)
   rw [this]
 · rw [num_nodig (by rw [hd];simpa using h),num_nodig (by simpa using h)]
end Go.Proofs.YtekafhogiambaaaGreatDoor.Rd
namespace Go.Proofs.YtekafhogiambaaaGreatDoor.Rd
theorem parseM_iff32 {M : Nat} (hM : M ≤ 4294967295) : ∀ (l : By) (a v : Nat),a ≤ M → (Lib.parseUintM M a l = .ok v ↔ digs l = true ∧ vl a l = v ∧ v ≤ M):=by
 intro l
 induction l with
 | nil =>
  intro a v ha
  constructor
  · intro h
    have h2 : (Lib.NumEnd.ok a : Lib.NumEnd Nat) = .ok v:=h
    injection h2 with h2
    subst h2
    exact ⟨rfl,rfl,ha⟩
  · rintro ⟨_,h,_⟩
    have h2 : a = v:=h
    subst h2
    rfl
 | cons c r ih =>
  intro a v ha
  rw [Lib.parseUintM]
  have hd : digs (c :: r) = ((decide (48 ≤ c.toNat) && decide (c.toNat ≤ 57)) && digs r):=rfl
  have hv : vl a (c :: r) = vl (10 * a + (c.toNat - 48)) r:=rfl
  by_cases hc : 48 ≤ c.toNat ∧ c.toNat ≤ 57
  · rw [if_pos hc,if_neg (by omega),hd,hv,show a * 10 = 10 * a from by omega]
    have h9 : (decide (48 ≤ c.toNat) && decide (c.toNat ≤ 57)) = true:=by simpa using hc
    rw [h9,Bool.true_and]
    by_cases hm : M < 10 * a + (c.toNat - 48)
    · rw [if_pos hm]
      constructor
      · intro h;cases h
      · rintro ⟨_,h,h2⟩
        have:=vl_le r (10 * a + (c.toNat - 48))
        omega
    · rw [if_neg hm]
      exact ih _ _ (by omega)
  · rw [if_neg hc,hd]
    have h9 : (decide (48 ≤ c.toNat) && decide (c.toNat ≤ 57)) = false:=by
     rw [Bool.eq_false_iff];simpa using hc
    rw [h9]
    constructor
    · intro h;cases h
    · rintro ⟨h,_⟩;cases h
theorem parse32 {l : By} (hz : ¬ (1 < l.length ∧ l.head? = some 48)) (v : Nat) : Lib.parseUintB 32 l = .ok v ↔ num l 4294967295 = some v:=by
 unfold Lib.parseUintB
 by_cases h0 : l = []
 · subst h0
   rw [if_pos rfl,num_bad (.inl rfl)]
   constructor <;> intro h <;> cases h
 · rw [if_neg h0,parseM_iff32 (M:=2 ^ 32 - 1) (by decide) l 0 v (by decide)]
   have hl0 : l.length ≠ 0:=fun e=>h0 (List.eq_nil_of_length_eq_zero e)
   have hvv : vl 0 l = val l:=rfl
   rw [hvv]
   by_cases hd : digs l = true
   · by_cases h12 : 12 < l.length
     · rw [num_bad (.inr (.inr h12))]
       constructor
       · rintro ⟨_,h,h2⟩
         exfalso
         match l,hl0,hz,hd,h12,h with
         | c :: r,_,hz,hd,h12,h =>
          have hc : 48 ≤ c.toNat ∧ c.toNat ≤ 57:=by
           have:=List.all_eq_true.1 hd c (by simp)
           simpa using this
          have hne : c.toNat ≠ 48:=fun e=>hz ⟨by omega,by simp only [List.head?_cons];congr 1;exact UInt8.toNat_inj.1 e⟩
          have hg:=vl_ge r (10 * 0 + (c.toNat - 48))
          have hval : val (c :: r) = vl (10 * 0 + (c.toNat - 48)) r:=rfl
          have hp : 10 ^ 12 ≤ 10 ^ r.length:=Nat.pow_le_pow_right (by omega) (by simp at h12;omega)
          have h1 : 1 * 10 ^ r.length ≤ (10 * 0 + (c.toNat - 48)) * 10 ^ r.length:=Nat.mul_le_mul_right _ (by omega)
          have hq : (10 : Nat) ^ 12 = 1000000000000:=by decide
          have hq2 : (2 : Nat) ^ 32 - 1 = 4294967295:=by decide
          omega
       · intro h;cases h
     · rw [num_dig (by intro h;rcases h with h | h | h;exact hl0 h;exact hz h;exact h12 h) hd]
       have hq2 : (2 : Nat) ^ 32 - 1 = 4294967295:=by decide
       rw [hq2]
       by_cases hm : 4294967295 < val l
       · rw [if_pos hm]
         constructor
         · rintro ⟨_,h,h2⟩;omega
         · intro h;cases h
       · rw [if_neg hm]
         constructor
         · rintro ⟨_,h,_⟩;rw [h]
         · intro h;injection h with h;exact ⟨hd,h,by omega⟩
   · rw [num_nodig (by simpa using hd)]
     constructor
     · rintro ⟨h,_⟩;exact absurd h hd
     · intro h;cases h
end Go.Proofs.YtekafhogiambaaaGreatDoor.Rd
namespace Go.Proofs.YtekafhogiambaaaGreatDoor
open Go.RowKit
theorem rd_strEq {a n : ByteArray} (h : a.data.toList = n.data.toList) : (a.toList == n.toList) = true :=
 (beq_toListBytes a n).symm.trans <| (MapKept.bytes_beq _ _).2 (by rw [string_eq (s:=a) rfl,string_eq (s:=n) rfl,h])
theorem rd_strNe {a n : ByteArray} (h : a.data.toList ≠ n.data.toList) : (a.toList == n.toList) = false:=by
 rw [← beq_toListBytes,Bool.eq_false_iff]
 intro hb
 have:=(MapKept.bytes_beq _ _).1 hb
 subst this
 exact h rfl
theorem sv_str (l : List UInt8) : ∃ s : ByteArray,sv l = .string s ∧ s.data.toList = l:=⟨⟨l.toArray⟩,rfl,rfl⟩
theorem fold_len (l : List UInt8) : (Nm.fold l).length = l.length:=by simp [Nm.fold]
def tyV : Option Nat → Value
 | some v=>.tuple #[.int .u16 v,.bool true]
 | none=>.tuple #[.int .u16 0,.bool false]
theorem Rd.num_le {s : By} {most v : Nat} (h : num s most = some v) : v ≤ most:=by
 unfold num at h
 split at h
 · cases h
 · split at h
   · dsimp only at h
     split at h
     · cases h
     · injection h with h;omega
   · cases h
end Go.Proofs.YtekafhogiambaaaGreatDoor
namespace Go.Proofs.YtekafhogiambaaaGreatDoor
open Go.RowKit
theorem rowNum {w : World} (h : LayR w) {k : Nat} (hk : k < 9) : w.cell? ⟨0,k * 9,none⟩ = some (.int .u16 (Rd.ty k : Nat)):=by
 rw [h.cell]
 exact Rd.nine (p:=fun k=>rowsCells[k * 9]? = some (.int .u16 (Rd.ty k : Nat))) hk rfl rfl rfl rfl rfl rfl rfl rfl rfl
theorem rowTxt {w : World} (h : LayR w) {k : Nat} (hk : k < 9) : w.cell? ⟨0,k * 9 + 1,none⟩ = some (sv (Rd.txt k)):=by
 rw [h.cell]
 exact Rd.nine (p:=fun k=>rowsCells[k * 9 + 1]? = some (sv (Rd.txt k))) hk rfl rfl rfl rfl rfl rfl rfl rfl rfl
theorem small_s (s : ByteArray) (w : World) (hs : s.size ≤ 140737488355328) :
 Calls Tryz.prog 94 #[.string s] w fun e w' => e = .returned (sv (Nm.fold s.data.toList)) ∧ Below w.heap.size w w':=by
 have HF:=Lib.hid (Fold_any s w hs)
 go_enter Tryz.func94,Tryz.ntmps94
 go_wp2_with (go_at_call 31;refine HF.out.mono ?_;rintro e w1 ⟨rfl,hb⟩)
 go_ret
 exact ⟨rfl,hb⟩
set_option maxHeartbeats 1000000 in
theorem TypeText_any (t : Nat) (w : World) (ht : t ≤ 65535) (hL : LayA w) :
 Calls Tryz.prog 35 #[.int .u16 t] w fun e w' => e = .returned (sv (Rd.tyText t)) ∧ Below w.heap.size w w':=by
 obtain ⟨R,hR⟩ : ∃ R,Rd.tyText t = R:=⟨_,rfl⟩
 rw [hR]
 have HRES:=Lib.hid hR
 clear hR
 have HL:=Lib.hid hL
 have HIT:=Lib.hid (fun W (h : LayP W)=>itoa_any t W (by omega) h)
 clear hL
 go_enter Tryz.func35,Tryz.ntmps35
 go_wp2
 go_loop [4] (fun i => ∃ k : Nat,i = .int .i64 k ∧ k ≤ 9 ∧ Hid (∀ j,j < k → Rd.ty j ≠ t)) (fun i=>9 - (intOf i).toNat)
 case atStart=>exact ⟨0,rfl,by omega,fun j hj=>absurd hj (by omega)⟩
 case round =>
  obtain ⟨k,rfl,hk,HJ⟩:=hrel
  by_cases hlt : k < 9
  · have c0:=rowNum HL.out.1 hlt
    have c1:=rowTxt HL.out.1 hlt
    have ha : (0 : Nat) = 0:=rfl
    by_cases he : Rd.ty k = t
    · have hr : R = Rd.txt k:=by rw [← HRES.out,← he,Rd.tyText_at hlt]
      have HR2:=Lib.hid hr
      clear hr
      rw [he] at c0
      generalize Rd.txt k = x at *
      clear he
      go_wp2
      go_ret
      exact ⟨by rw [HR2.out];rfl,Below.refl _ _⟩
    · have hb : (((Rd.ty k : Nat) : Int) == (t : Int)) = false:=beq_eq_false_iff_ne.2 (by omega)
      have hne:=Lib.hid he
      clear he
      go_wp2
      go_round
      case rel=>exact ⟨k + 1,by go_num,by omega,fun j hj=>(Nat.lt_succ_iff_lt_or_eq.1 hj).elim (HJ.out j) (fun e=>by subst e;exact hne.out)⟩
      case measure=>simp [intOf];omega
  · obtain rfl : k = 9:=by omega
    have hr : R = [84,89,80,69] ++ Rd.dec t:=by rw [← HRES.out];exact Rd.tyText_no HJ.out
    have HR2:=Lib.hid hr
    clear hr
    have hdl : (Rd.dec t).length ≤ 65536:=by have:=Rd.dec_len t;omega
    go_wp2_with (go_at_call 59;refine (HIT.out _ HL.out.2.1).mono ?_;rintro e w1 ⟨rfl,hb⟩)
    go_ret
    exact ⟨by rw [HR2.out,← sv_cat];rfl,hb⟩
def uintV (o : Option Nat) : Value:=match o with
 | some v=>.tuple #[.int .u32 v,.bool true]
 | none=>.tuple #[.int .u32 0,.bool false]
theorem parse16_ok (s : ByteArray) (w : World) (hs : s.size ≤ 140737488355328) (hz : ¬ (1 < s.data.toList.length ∧ s.data.toList.head? = some 48)) {v : Nat} (h : Rd.num s.data.toList 65535 = some v) :
 Calls Tryz.prog 91 #[.string s,.int .i64 10,.int .i64 16] w fun e w' => e = .returned (.tuple #[.int .u64 v,.nilIface]) ∧ Below w.heap.size w w':=by
 refine (Tryz.strconv_ParseUint_10_at16_ok s (by omega) v ((Rd.parse16 hz v).2 h) w).mono ?_
 rintro e w' ⟨rfl,rfl | rfl⟩
 · exact ⟨rfl,Below.refl _ _⟩
 · exact ⟨rfl,bytesWorld_below _ _ _⟩
theorem parse16_no (s : ByteArray) (w : World) (hL : Lay w) (hs : s.size ≤ 140737488355328) (hz : ¬ (1 < s.data.toList.length ∧ s.data.toList.head? = some 48)) (h : Rd.num s.data.toList 65535 = none) :
 Calls Tryz.prog 91 #[.string s,.int .i64 10,.int .i64 16] w fun e w' => ∃ x t a,e = .returned (.tuple #[.int .u64 x,.iface t (.pointer (some a))]) ∧ Below w.heap.size w w':=by
 obtain ⟨⟨t1,p1,h1⟩,t2,p2,h2⟩:=hL
 have hno : ∀ v,Lib.parseUintB 16 s.data.toList ≠ .ok v:=fun v hv=>by
  have:=(Rd.parse16 hz v).1 hv
  rw [h] at this;cases this
 rcases hp : Lib.parseUintB 16 s.data.toList with v | _ | _
 · exact absurd hp (hno v)
 · refine (Tryz.strconv_ParseUint_10_at16_syntax s (by omega) hp _ w h1 (.inr ⟨_,_,rfl⟩)).mono ?_
   rintro e w' ⟨N,rfl,_,_,hb⟩
   exact ⟨_,_,_,rfl,hb⟩
 · refine (Tryz.strconv_ParseUint_10_at16_range s (by omega) hp _ w h2 (.inr ⟨_,_,rfl⟩)).mono ?_
   rintro e w' ⟨N,rfl,_,_,hb⟩
   exact ⟨_,_,_,rfl,hb⟩
set_option maxHeartbeats 1000000 in
theorem number16_any (s : ByteArray) (w : World) (hL : Lay w) (hs : s.size ≤ 140737488355328) :
 Calls Tryz.prog 96 #[.string s,.int .i64 16] w fun e w' => e = .returned (uintV (Rd.num s.data.toList 65535)) ∧ Below w.heap.size w w':=by
 have hl : s.data.toList.length = s.size:=by simp
 have key : ∀ (hz : ¬ (1 < s.data.toList.length ∧ s.data.toList.head? = some 48)),(∃ v,v ≤ 65535 ∧ Rd.num s.data.toList 65535 = some v ∧ Calls Tryz.prog 91 #[.string s,.int .i64 10,.int .i64 16] w fun e w' => e = .returned (.tuple #[.int .u64 v,.nilIface]) ∧ Below w.heap.size w w') ∨
  (Rd.num s.data.toList 65535 = none ∧ Calls Tryz.prog 91 #[.string s,.int .i64 10,.int .i64 16] w fun e w' => ∃ x t a,e = .returned (.tuple #[.int .u64 x,.iface t (.pointer (some a))]) ∧ Below w.heap.size w w'):=fun hz=>by
  cases h : Rd.num s.data.toList 65535 with
  | some v=>exact .inl ⟨v,Rd.num_le h,rfl,parse16_ok s w hs hz h⟩
  | none=>exact .inr ⟨rfl,parse16_no s w hL hs hz h⟩
 by_cases h1 : 1 < s.size
 · have h0s : 0 < s.size:=by clear hl key;omega
   have hd:=Rd.head_of (s:=s) h0s
   have hi1 : (1 : Int) < (s.size : Int):=by omega
   by_cases h48 : (s[0]'h0s).toNat = 48
   · have hn : Rd.num s.data.toList 65535 = none:=Rd.num_bad (.inr (.inl ⟨by omega,by rw [hd];congr 1;exact UInt8.toNat_inj.1 h48⟩))
     have HN:=Lib.hid hn
     have hb : (((s[0]'h0s).toNat : Int) == 48) = true:=by rw [h48];rfl
     clear hn hd key hl h48
     go_enter Tryz.func96,Tryz.ntmps96
     go_wp2
     go_ret2
     exact ⟨by rw [HN.out];rfl,Below.refl _ _⟩
   · have hz : ¬ (1 < s.data.toList.length ∧ s.data.toList.head? = some 48):=fun ⟨_,e⟩=>h48 (by rw [hd] at e;injection e with e;rw [e];rfl)
     have hb : (((s[0]'h0s).toNat : Int) == 48) = false:=beq_eq_false_iff_ne.2 (by omega)
     rcases key hz with ⟨v,hv,hn,hc⟩ | ⟨hn,hc⟩
     · have HN:=Lib.hid hn
       have HC:=Lib.hid hc
       clear hn hc hd key hl h48 hz
       go_enter Tryz.func96,Tryz.ntmps96
       go_wp2_with (go_at_call 91;refine HC.out.mono ?_;rintro e w1 ⟨rfl,hB⟩)
       go_ret2
       exact ⟨by rw [HN.out];rfl,hB⟩
     · have HN:=Lib.hid hn
       have HC:=Lib.hid hc
       clear hn hc hd key hl h48 hz
       go_enter Tryz.func96,Tryz.ntmps96
       go_wp2_with (go_at_call 91;refine HC.out.mono ?_;rintro e w1 ⟨x,ty,a,rfl,hB⟩)
       go_ret2
       exact ⟨by rw [HN.out];rfl,hB⟩
 · have hz : ¬ (1 < s.data.toList.length ∧ s.data.toList.head? = some 48):=fun ⟨e,_⟩=>h1 (by omega)
   rcases key hz with ⟨v,hv,hn,hc⟩ | ⟨hn,hc⟩
   · have HN:=Lib.hid hn
     have HC:=Lib.hid hc
     clear hn hc key hl hz
     go_enter Tryz.func96,Tryz.ntmps96
     go_wp2_with (go_at_call 91;refine HC.out.mono ?_;rintro e w1 ⟨rfl,hB⟩)
     go_ret2
     exact ⟨by rw [HN.out];rfl,hB⟩
   · have HN:=Lib.hid hn
     have HC:=Lib.hid hc
     clear hn hc key hl hz
     go_enter Tryz.func96,Tryz.ntmps96
     go_wp2_with (go_at_call 91;refine HC.out.mono ?_;rintro e w1 ⟨x,ty,a,rfl,hB⟩)
     go_ret2
     exact ⟨by rw [HN.out];rfl,hB⟩
end Go.Proofs.YtekafhogiambaaaGreatDoor
namespace Go.Proofs.YtekafhogiambaaaGreatDoor
open Go.RowKit
theorem keyword_any (x : Tk.Wd) (w : World) (hx : x.text.length ≤ 262144) :
 Calls Tryz.prog 38 #[.agg #[sv x.text,.bool x.quoted,.int .i64 x.line,.int .i64 x.col]] w fun e w' => e = .returned (sv (Ma.kw x)) ∧ Below w.heap.size w w':=by
 obtain ⟨t,q,l,c⟩:=x
 have HF:=Lib.hid (fun W : World=>Fold_any ⟨t.toArray⟩ W (by rw [mk_size];exact Nat.le_trans hx (by decide)))
 clear hx
 cases q with
 | true =>
  go_enter Tryz.func38,Tryz.ntmps38
  go_wp2
  go_ret
  exact ⟨rfl,(Below.refl _ _).alloc (Nat.le_refl _) _⟩
 | false =>
  go_enter Tryz.func38,Tryz.ntmps38
  go_wp2_with (go_at_call 31;refine (HF.out _).mono ?_;rintro e w1 ⟨rfl,B1⟩)
  go_ret
  exact ⟨rfl,((Below.refl w.heap.size w).alloc (Nat.le_refl _) _).trans (B1.mono (by simp))⟩
theorem parse32_ok (s : ByteArray) (w : World) (hs : s.size ≤ 140737488355328) (hz : ¬ (1 < s.data.toList.length ∧ s.data.toList.head? = some 48)) {v : Nat} (h : Rd.num s.data.toList 4294967295 = some v) :
 Calls Tryz.prog 91 #[.string s,.int .i64 10,.int .i64 32] w fun e w' => e = .returned (.tuple #[.int .u64 v,.nilIface]) ∧ Below w.heap.size w w':=by
 refine (Tryz.strconv_ParseUint_10_at32_ok s (by omega) v ((Rd.parse32 hz v).2 h) w).mono ?_
 rintro e w' ⟨rfl,rfl | rfl⟩
 · exact ⟨rfl,Below.refl _ _⟩
 · exact ⟨rfl,bytesWorld_below _ _ _⟩
theorem parse32_no (s : ByteArray) (w : World) (hL : Lay w) (hs : s.size ≤ 140737488355328) (hz : ¬ (1 < s.data.toList.length ∧ s.data.toList.head? = some 48)) (h : Rd.num s.data.toList 4294967295 = none) :
 Calls Tryz.prog 91 #[.string s,.int .i64 10,.int .i64 32] w fun e w' => ∃ x t a,e = .returned (.tuple #[.int .u64 x,.iface t (.pointer (some a))]) ∧ Below w.heap.size w w':=by
 obtain ⟨⟨t1,p1,h1⟩,t2,p2,h2⟩:=hL
 have hno : ∀ v,Lib.parseUintB 32 s.data.toList ≠ .ok v:=fun v hv=>by
  have:=(Rd.parse32 hz v).1 hv
  rw [h] at this;cases this
 rcases hp : Lib.parseUintB 32 s.data.toList with v | _ | _
 · exact absurd hp (hno v)
 · refine (Tryz.strconv_ParseUint_10_at32_syntax s (by omega) hp _ w h1 (.inr ⟨_,_,rfl⟩)).mono ?_
   rintro e w' ⟨N,rfl,_,_,hb⟩
   exact ⟨_,_,_,rfl,hb⟩
 · refine (Tryz.strconv_ParseUint_10_at32_range s (by omega) hp _ w h2 (.inr ⟨_,_,rfl⟩)).mono ?_
   rintro e w' ⟨N,rfl,_,_,hb⟩
   exact ⟨_,_,_,rfl,hb⟩
set_option maxHeartbeats 1000000 in
theorem maNumber_any (x : Tk.Wd) (w : World) (hL : Lay w) (hx : x.text.length ≤ 262144) :
 Calls Tryz.prog 73 #[.agg #[sv x.text,.bool x.quoted,.int .i64 x.line,.int .i64 x.col]] w fun e w' => e = .returned (uintV (Ma.num x)) ∧ Below w.heap.size w w':=by
 obtain ⟨t,q,l,c⟩:=x
 have hBa:=fun cs ty=>(Below.refl w.heap.size w).alloc (Nat.le_refl _) (.cells cs ty)
 cases q with
 | true =>
  clear hL hx
  go_enter Tryz.func73,Tryz.ntmps73
  go_wp2
  go_ret2
  exact ⟨rfl,(Below.refl _ _).alloc (Nat.le_refl _) _⟩
 | false =>
  obtain ⟨s,hs⟩ : ∃ s : ByteArray,s = ⟨t.toArray⟩:=⟨_,rfl⟩
  have htl : t = s.data.toList:=by rw [hs]
  have hsz : s.size ≤ 140737488355328:=by rw [hs,mk_size];exact Nat.le_trans hx (by decide)
  show Calls _ _ #[.agg #[.string ⟨t.toArray⟩,.bool false,.int .i64 l,.int .i64 c]] _ fun e w' => e = .returned (uintV (Rd.num t 4294967295)) ∧ _
  rw [← hs,htl]
  clear hs htl hx
  have hl : s.data.toList.length = s.size:=by simp
  have hLA : ∀ cs ty,Lay (w.alloc (.cells cs ty)):=fun cs ty=>hL.below ((Below.refl w.heap.size w).alloc (Nat.le_refl _) _) hL.size
  have key : ∀ (hz : ¬ (1 < s.data.toList.length ∧ s.data.toList.head? = some 48)),(∃ v,v ≤ 4294967295 ∧ Rd.num s.data.toList 4294967295 = some v ∧ ∀ cs ty,Calls Tryz.prog 91 #[.string s,.int .i64 10,.int .i64 32] (w.alloc (.cells cs ty)) fun e w' => e = .returned (.tuple #[.int .u64 v,.nilIface]) ∧ Below (w.alloc (.cells cs ty)).heap.size (w.alloc (.cells cs ty)) w') ∨
   (Rd.num s.data.toList 4294967295 = none ∧ ∀ cs ty,Calls Tryz.prog 91 #[.string s,.int .i64 10,.int .i64 32] (w.alloc (.cells cs ty)) fun e w' => ∃ x t a,e = .returned (.tuple #[.int .u64 x,.iface t (.pointer (some a))]) ∧ Below (w.alloc (.cells cs ty)).heap.size (w.alloc (.cells cs ty)) w'):=fun hz=>by
   cases h : Rd.num s.data.toList 4294967295 with
   | some v=>exact .inl ⟨v,Rd.num_le h,rfl,fun cs ty=>parse32_ok s _ hsz hz h⟩
   | none=>exact .inr ⟨rfl,fun cs ty=>parse32_no s _ (hLA cs ty) hsz hz h⟩
  have HBa:=Lib.hid hBa
  clear hBa hLA hL
  by_cases h1 : 1 < s.size
  · have h0s : 0 < s.size:=by clear hl key;omega
    have hd:=Rd.head_of (s:=s) h0s
    have hi1 : (1 : Int) < (s.size : Int):=by omega
    by_cases h48 : (s[0]'h0s).toNat = 48
    · have hn : Rd.num s.data.toList 4294967295 = none:=Rd.num_bad (.inr (.inl ⟨by omega,by rw [hd];congr 1;exact UInt8.toNat_inj.1 h48⟩))
      have HN:=Lib.hid hn
      have hb : (((s[0]'h0s).toNat : Int) == 48) = true:=by rw [h48];rfl
      clear hn hd key hl h48
      go_enter Tryz.func73,Tryz.ntmps73
      go_wp2
      go_ret2
      exact ⟨by rw [HN.out];rfl,HBa.out _ _⟩
    · have hz : ¬ (1 < s.data.toList.length ∧ s.data.toList.head? = some 48):=fun ⟨_,e⟩=>h48 (by rw [hd] at e;injection e with e;rw [e];rfl)
      have hb : (((s[0]'h0s).toNat : Int) == 48) = false:=beq_eq_false_iff_ne.2 (by omega)
      rcases key hz with ⟨v,hv,hn,hc⟩ | ⟨hn,hc⟩
      · have HN:=Lib.hid hn
        have HC:=Lib.hid hc
        clear hn hc hd key hl h48 hz
        go_enter Tryz.func73,Tryz.ntmps73
        go_wp2_with (go_at_call 91;refine (HC.out _ _).mono ?_;rintro e w1 ⟨rfl,hB⟩)
        go_ret2
        exact ⟨by rw [HN.out];rfl,(HBa.out _ _).trans (hB.mono (by simp))⟩
      · have HN:=Lib.hid hn
        have HC:=Lib.hid hc
        clear hn hc hd key hl h48 hz
        go_enter Tryz.func73,Tryz.ntmps73
        go_wp2_with (go_at_call 91;refine (HC.out _ _).mono ?_;rintro e w1 ⟨x,ty,a,rfl,hB⟩)
        go_ret2
        exact ⟨by rw [HN.out];rfl,(HBa.out _ _).trans (hB.mono (by simp))⟩
  · have hz : ¬ (1 < s.data.toList.length ∧ s.data.toList.head? = some 48):=fun ⟨e,_⟩=>h1 (by omega)
    rcases key hz with ⟨v,hv,hn,hc⟩ | ⟨hn,hc⟩
    · have HN:=Lib.hid hn
      have HC:=Lib.hid hc
      clear hn hc key hl hz
      go_enter Tryz.func73,Tryz.ntmps73
      go_wp2_with (go_at_call 91;refine (HC.out _ _).mono ?_;rintro e w1 ⟨rfl,hB⟩)
      go_ret2
      exact ⟨by rw [HN.out];rfl,(HBa.out _ _).trans (hB.mono (by simp))⟩
    · have HN:=Lib.hid hn
      have HC:=Lib.hid hc
      clear hn hc key hl hz
      go_enter Tryz.func73,Tryz.ntmps73
      go_wp2_with (go_at_call 91;refine (HC.out _ _).mono ?_;rintro e w1 ⟨x,ty,a,rfl,hB⟩)
      go_ret2
      exact ⟨by rw [HN.out];rfl,(HBa.out _ _).trans (hB.mono (by simp))⟩
end Go.Proofs.YtekafhogiambaaaGreatDoor
namespace Go.Proofs.YtekafhogiambaaaGreatDoor
open Go.RowKit
def flt (x : Ma.Er) : Value:=.iface 67 (.agg #[.int .i64 x.e,.int .i64 x.line,.int .i64 x.col])
def Fell (w : World) (g : Nat) (x : Ma.Er) (e : Ending) (w' : World) : Prop:=e = .panicked [{ v:=flt x,recovered:=false }] ∧ Below g w w'
def wv (x : Tk.Wd) : Value:=.agg #[sv x.text,.bool x.quoted,.int .i64 x.line,.int .i64 x.col]
theorem maGiveUp_any (x : Tk.Wd) (n : Nat) (w : World) :
 Calls Tryz.prog 40 #[wv x,.int .i64 n] w fun e w' => Fell w w.heap.size (Ma.at_ x n) e w':=by
 obtain ⟨t,q,l,c⟩:=x
 show Calls _ _ #[.agg #[sv t,.bool q,.int .i64 l,.int .i64 c],.int .i64 n] _ _
 have hB:=(Below.refl w.heap.size w).alloc (Nat.le_refl _) (.cells #[sv t,.bool q,.int .i64 l,.int .i64 c] 69)
 have HB:=Lib.hid hB
 clear hB
 go_enter Tryz.func40,Tryz.ntmps40
 go_wp2
 exact ⟨rfl,⟨rfl,HB.out⟩⟩
theorem MM.two {w : World} {g : Nat} {hi : Nat × Nat} {s : Ma.S} {f : Tk.Wd} {ws : List Tk.Wd} (h : MM w g hi s f ws) (o1 o2 : Obj) : MM ((w.alloc o1).alloc o2) g hi s f ws :=
 (h.keep ((Below.refl _ _).alloc (Nat.le_refl _) o1)).keep ((Below.refl _ _).alloc (Nat.le_refl _) o2)
section
variable {g : Nat} {hi : Nat × Nat} {s : Ma.S} {f x : Tk.Wd} {ws : List Tk.Wd} {w : World}
set_option maxHeartbeats 1000000 in
theorem maTake_any (h : MM w g hi s f (x :: ws)) :
 Calls Tryz.prog 71 #[.pointer (some ⟨g,0,none⟩)] w fun e w' => e = .returned (wv x) ∧ MM w' g hi s f ws ∧ Kb g w.heap.size w w':=by
 have HM:=Lib.hid h
 obtain ⟨vr,vw,h1,h2⟩:=h.wp
 obtain ⟨q,p,c,rfl,hc,hm,hq,hr,h4,_⟩:=h2.head
 have hle:=h.le
 have HR:=Lib.hid (fun (W : World) (hb : Below w.heap.size w W)=>range_below hb (by have:=h1.lt;omega) hr)
 have hi4 : (Tryz.prog.info? 69).map (·.size) = some 4:=by kernel_rfl
 have HI:=Lib.hid hi4
 clear hi4
 have c0 : w.cell? ⟨g,8,none⟩ = some (.slice (some ⟨q,p,none⟩) (ws.length + 1) c):=by rw [h1.cell];rfl
 have f0:=h1.free 8
 have hg:=h1.lt
 have hqg : q ≠ g:=by omega
 have e0 : ((((ws.length + 1 : Nat) : Int)) == 0) = false:=beq_eq_false_iff_ne.2 (by omega)
 have H4:=Lib.hid h4
 clear h1 h2 h4 hr h
 obtain ⟨t,b,l,k⟩:=x
 go_enter Tryz.func71,Tryz.ntmps71
 go_wp2_with (refine wpList_load_mid rfl 69 (.tmp 8) rfl q _ rfl [sv t,.bool b,.int .i64 l,.int .i64 k] _ (HR.out _ ((Below.refl _ _).alloc (Nat.le_refl _) _)) Tryz.underlying69 rfl HI.out ?_)
 all_goals
  have h4:=H4.out
  first | rw [if_neg (by assumption)] at h4 | (subst_vars;rw [if_pos rfl] at h4)
  have hk:=fun v' : Value=>(((Kb.refl g w.heap.size w).set 8 v').alloc (by simp) (.cells #[sv t,.bool b,.int .i64 l,.int .i64 k] 69)).alloc (by simp) (.cells #[sv t,.bool b,.int .i64 l,.int .i64 k] 69)
  refine bodyPost_ret (results_cell_row rfl _ _ w.heap.size 69 #[sv t,.bool b,.int .i64 l,.int .i64 k] (0,0) _ rfl new_two Tryz.underlying69 rfl HI.out) rfl ?_
  exact ⟨rfl,(HM.out.putW h4).two _ _,hk _⟩
set_option maxHeartbeats 1000000 in
theorem maTell_any (h : MM w g hi s f ws) (x : Tk.Wd) (v : Nat) :
 Calls Tryz.prog 92 #[.pointer (some ⟨g,0,none⟩),wv x,.int .u32 v] w fun e w' =>
  if 2147483647 < v then Fell w w.heap.size (Ma.at_ x 91) e w' else e = .returned (.tuple #[]) ∧ MM w' g hi { s with ttl:=if s.fx then s.ttl else v } f ws ∧ Kb g w.heap.size w w':=by
 obtain ⟨t,q,l,c⟩:=x
 show Calls _ _ #[_,.agg #[sv t,.bool q,.int .i64 l,.int .i64 c],_] _ _
 have HG:=Lib.hid (fun W : World=>maGiveUp_any ⟨t,q,l,c⟩ 91 W)
 have HM:=Lib.hid h
 obtain ⟨o,ttl,fx,recs⟩:=s
 have hA:=h.keep ((Below.refl w.heap.size w).alloc (Nat.le_refl _) (.cells #[sv t,.bool q,.int .i64 l,.int .i64 c] 69))
 have hk:=(Kb.refl g w.heap.size w).alloc (Nat.le_refl _) (.cells #[sv t,.bool q,.int .i64 l,.int .i64 c] 69)
 have hb:=(Below.refl w.heap.size w).alloc (Nat.le_refl _) (.cells #[sv t,.bool q,.int .i64 l,.int .i64 c] 69)
 have hlt:=h.lt
 obtain ⟨vr,vw,hh⟩:=hA.has
 have c2 : (w.alloc (.cells #[sv t,.bool q,.int .i64 l,.int .i64 c] 69)).cell? ⟨g,2,none⟩ = some (.bool fx):=by rw [hh.cell];rfl
 have c1 : (w.alloc (.cells #[sv t,.bool q,.int .i64 l,.int .i64 c] 69)).cell? ⟨g,1,none⟩ = some (.int .u32 ttl):=by rw [hh.cell];rfl
 have f1:=hh.free 1
 have HA:=Lib.hid hA
 have HK:=Lib.hid hk
 have HB:=Lib.hid hb
 clear h hA hk hb hh
 by_cases hv : 2147483647 < v
 · have hvi : (2147483647 : Int) < (v : Int):=by omega
   simp only [if_pos hv]
   clear hv
   go_enter Tryz.func92,Tryz.ntmps92
   go_wp2_with (go_at_call 40;refine (HG.out _).mono ?_;rintro e w1 ⟨rfl,B1⟩;exact ⟨rfl,⟨rfl,HB.out.trans (B1.mono HB.out.size)⟩⟩)
 · have hvi : ¬ (2147483647 : Int) < (v : Int):=by omega
   simp only [if_neg hv]
   clear hv
   cases fx with
   | true =>
    go_enter Tryz.func92,Tryz.ntmps92
    go_wp2
    go_end0
    exact ⟨rfl,HA.out,HK.out⟩
   | false =>
    go_enter Tryz.func92,Tryz.ntmps92
    go_wp2
    go_end0
    exact ⟨rfl,(HM.out.put (s':=⟨o,v,false,recs⟩) (i:=1) (u:=.int .u32 v) (fun _ _=>rfl) rfl).keep ((Below.refl _ _).alloc (Nat.le_refl _) _),((Kb.refl g w.heap.size w).set 1 _).alloc (by simp) _⟩
end
end Go.Proofs.YtekafhogiambaaaGreatDoor
namespace Go.Proofs.YtekafhogiambaaaGreatDoor
open Go.RowKit
set_option maxHeartbeats 1000000 in
theorem maClass_any (x : Tk.Wd) (w : World) (hx : x.text.length ≤ 262144) :
 Calls Tryz.prog 93 #[wv x] w fun e w' => e = .returned (.bool (Ma.isClass x)) ∧ Below w.heap.size w w':=by
 have HK:=Lib.hid (fun W : World=>keyword_any x W hx)
 have hR : ∃ R,Ma.isClass x = R:=⟨_,rfl⟩
 obtain ⟨R,hR⟩:=hR
 rw [hR]
 unfold Ma.isClass at hR
 obtain ⟨k,hk⟩ : ∃ k,Ma.kw x = k:=⟨_,rfl⟩
 rw [hk] at hR HK
 clear hk hx
 obtain ⟨t,q,l,c⟩:=x
 show Calls _ _ #[.agg #[sv t,.bool q,.int .i64 l,.int .i64 c]] _ _
 have hB:=(Below.refl w.heap.size w).alloc (Nat.le_refl _) (.cells #[sv t,.bool q,.int .i64 l,.int .i64 c] 69)
 have HB:=Lib.hid hB
 clear hB
 cases h1 : (k == ([105,110] : List UInt8)) with
 | true =>
  have HR:=Lib.hid (show R = true by rw [← hR,h1];rfl)
  clear hR
  go_enter Tryz.func93,Tryz.ntmps93
  go_wp2_with (go_at_call 38;refine (HK.out _).mono ?_;rintro e w1 ⟨rfl,B1⟩)
  go_ret
  exact ⟨by rw [HR.out];rfl,HB.out.trans (B1.mono HB.out.size)⟩
 | false =>
  cases h2 : (k == ([99,104] : List UInt8)) with
  | true =>
   have HR:=Lib.hid (show R = true by rw [← hR,h1,h2];rfl)
   clear hR
   go_enter Tryz.func93,Tryz.ntmps93
   go_wp2_with (go_at_call 38;refine (HK.out _).mono ?_;rintro e w1 ⟨rfl,B1⟩)
   go_ret
   exact ⟨by rw [HR.out];rfl,HB.out.trans (B1.mono HB.out.size)⟩
  | false =>
   cases h3 : (k == ([99,115] : List UInt8)) with
   | true =>
    have HR:=Lib.hid (show R = true by rw [← hR,h1,h2,h3];rfl)
    clear hR
    go_enter Tryz.func93,Tryz.ntmps93
    go_wp2_with (go_at_call 38;refine (HK.out _).mono ?_;rintro e w1 ⟨rfl,B1⟩)
    go_ret
    exact ⟨by rw [HR.out];rfl,HB.out.trans (B1.mono HB.out.size)⟩
   | false =>
    cases h4 : (k == ([104,115] : List UInt8)) with
    | true =>
     have HR:=Lib.hid (show R = true by rw [← hR,h1,h2,h3,h4];rfl)
     clear hR
     go_enter Tryz.func93,Tryz.ntmps93
     go_wp2_with (go_at_call 38;refine (HK.out _).mono ?_;rintro e w1 ⟨rfl,B1⟩)
     go_ret
     exact ⟨by rw [HR.out];rfl,HB.out.trans (B1.mono HB.out.size)⟩
    | false =>
     have HR:=Lib.hid (show R = false by rw [← hR,h1,h2,h3,h4];rfl)
     clear hR
     go_enter Tryz.func93,Tryz.ntmps93
     go_wp2_with (go_at_call 38;refine (HK.out _).mono ?_;rintro e w1 ⟨rfl,B1⟩)
     go_ret
     exact ⟨by rw [HR.out];rfl,HB.out.trans (B1.mono HB.out.size)⟩
end Go.Proofs.YtekafhogiambaaaGreatDoor
namespace Go.Proofs.YtekafhogiambaaaGreatDoor.Rd
theorem parseM_ok {M : Nat} (hM : M ≤ 4294967295) : ∀ (l : By) (a : Nat),a ≤ M → digs l = true → vl a l ≤ M → Lib.parseUintM M a l = .ok (vl a l):=by
 intro l
 induction l with
 | nil=>intro a ha _ _;rfl
 | cons c r ih =>
  intro a ha hd hv
  have hd2 : ((decide (48 ≤ c.toNat) && decide (c.toNat ≤ 57)) && digs r) = true:=hd
  have hv2 : vl (10 * a + (c.toNat - 48)) r ≤ M:=hv
  rw [Bool.and_eq_true,Bool.and_eq_true,decide_eq_true_eq,decide_eq_true_eq] at hd2
  obtain ⟨hc,hr⟩:=hd2
  have hle:=vl_le r (10 * a + (c.toNat - 48))
  rw [Lib.parseUintM,if_pos hc,if_neg (by omega),show a * 10 = 10 * a from by omega,if_neg (by omega)]
  exact ih _ (by omega) hr hv2
theorem parse_ok {B : Nat} {l : By} {v : Nat} (hB : 2 ^ B - 1 ≤ 4294967295) (h : num l (2 ^ B - 1) = some v) : Lib.parseUintB B l = .ok v:=by
 have h0 : ¬ (l.length = 0 ∨ (1 < l.length ∧ l.head? = some 48) ∨ 12 < l.length):=fun hb=>by rw [num_bad hb] at h;cases h
 have hd : digs l = true:=by
  cases hd : digs l with
  | true=>rfl
  | false=>rw [num_nodig hd] at h;cases h
 have hm : val l ≤ 2 ^ B - 1 ∧ val l = v:=by
  rw [num_dig h0 hd] at h
  by_cases hm : 2 ^ B - 1 < val l
  · rw [if_pos hm] at h;cases h
  · rw [if_neg hm] at h
    injection h with h
    exact ⟨by omega,h⟩
 have hl : l ≠ []:=fun e=>h0 (.inl (by rw [e];rfl))
 have hvv : vl 0 l = val l:=rfl
 unfold Lib.parseUintB
 rw [if_neg hl,parseM_ok hB l 0 (by omega) hd (by rw [hvv];exact hm.1),hvv,hm.2]
theorem num_nz {l : By} {m v : Nat} (h : num l m = some v) : ¬ (1 < l.length ∧ l.head? = some 48):=fun hb=>by rw [num_bad (.inr (.inl hb))] at h;cases h
end Go.Proofs.YtekafhogiambaaaGreatDoor.Rd
namespace Go.Proofs.YtekafhogiambaaaGreatDoor
open Go.RowKit
theorem parseB_ok (s : ByteArray) (w : World) (B : Nat) (hB : B = 8 ∨ B = 16 ∨ B = 32) (hs : s.size ≤ 140737488355328) {v : Nat} (h : Rd.num s.data.toList (2 ^ B - 1) = some v) :
 Calls Tryz.prog 91 #[.string s,.int .i64 10,.int .i64 (B : Nat)] w fun e w' => e = .returned (.tuple #[.int .u64 v,.nilIface]) ∧ Below w.heap.size w w':=by
 rcases hB with rfl | rfl | rfl
 · refine (Tryz.strconv_ParseUint_10_at8_ok s (by omega) v (Rd.parse_ok (by decide) h) w).mono ?_
   rintro e w' ⟨rfl,rfl | rfl⟩
   · exact ⟨rfl,Below.refl _ _⟩
   · exact ⟨rfl,bytesWorld_below _ _ _⟩
 · refine (Tryz.strconv_ParseUint_10_at16_ok s (by omega) v (Rd.parse_ok (by decide) h) w).mono ?_
   rintro e w' ⟨rfl,rfl | rfl⟩
   · exact ⟨rfl,Below.refl _ _⟩
   · exact ⟨rfl,bytesWorld_below _ _ _⟩
 · refine (Tryz.strconv_ParseUint_10_at32_ok s (by omega) v (Rd.parse_ok (by decide) h) w).mono ?_
   rintro e w' ⟨rfl,rfl | rfl⟩
   · exact ⟨rfl,Below.refl _ _⟩
   · exact ⟨rfl,bytesWorld_below _ _ _⟩
theorem num_max {s : List UInt8} {B v : Nat} (hB : B = 8 ∨ B = 16 ∨ B = 32) (h : Rd.num s (2 ^ B - 1) = some v) : v ≤ 2 ^ B - 1 ∧ 2 ^ B - 1 ≤ 4294967295:=by
 rcases hB with rfl | rfl | rfl
 all_goals
  have:=Rd.num_le h
  exact ⟨this,by decide⟩
set_option maxHeartbeats 1000000 in
theorem numberB_ok (s : ByteArray) (w : World) (B : Nat) (hB : B = 8 ∨ B = 16 ∨ B = 32) (hs : s.size ≤ 140737488355328) {v : Nat} (h : Rd.num s.data.toList (2 ^ B - 1) = some v) :
 Calls Tryz.prog 96 #[.string s,.int .i64 (B : Nat)] w fun e w' => e = .returned (.tuple #[.int .u32 v,.bool true]) ∧ Below w.heap.size w w':=by
 have hl : s.data.toList.length = s.size:=by simp
 obtain ⟨hv1,hv2⟩:=num_max hB h
 have hv : v ≤ 4294967295:=by omega
 have hz:=Rd.num_nz h
 have HC:=Lib.hid (parseB_ok s w B hB hs h)
 clear h hB hv1 hv2
 by_cases h1 : 1 < s.size
 · have h0s : 0 < s.size:=by omega
   have hd:=Rd.head_of (s:=s) h0s
   have hi1 : (1 : Int) < (s.size : Int):=by omega
   have h48 : (s[0]'h0s).toNat ≠ 48:=fun h48=>hz ⟨by omega,by rw [hd];congr 1;exact UInt8.toNat_inj.1 h48⟩
   have hb : (((s[0]'h0s).toNat : Int) == 48) = false:=beq_eq_false_iff_ne.2 (by omega)
   clear hd hl h48 hz
   go_enter Tryz.func96,Tryz.ntmps96
   go_wp2_with (go_at_call 91;refine HC.out.mono ?_;rintro e w1 ⟨rfl,hB⟩)
   go_ret2
   exact ⟨rfl,hB⟩
 · clear hl hz
   go_enter Tryz.func96,Tryz.ntmps96
   go_wp2_with (go_at_call 91;refine HC.out.mono ?_;rintro e w1 ⟨rfl,hB⟩)
   go_ret2
   exact ⟨rfl,hB⟩
theorem rdDigits_ok (p : Value) (s : ByteArray) (w : World) (B : Nat) (hB : B = 8 ∨ B = 16 ∨ B = 32) (hs : s.size ≤ 140737488355328) {v : Nat} (h : Rd.num s.data.toList (2 ^ B - 1) = some v) :
 Calls Tryz.prog 142 #[p,.string s,.int .i64 (B : Nat)] w fun e w' => e = .returned (.int .u32 v) ∧ Below w.heap.size w w':=by
 have HC:=Lib.hid (numberB_ok s w B hB hs h)
 clear h hB
 go_enter Tryz.func142,Tryz.ntmps142
 go_wp2_with (go_at_call 96;refine HC.out.mono ?_;rintro e w1 ⟨rfl,hB⟩)
 go_ret
 exact ⟨rfl,hB⟩
section
variable {g hi n : Nat} {o : ByteArray} {ws : List Rd.W2} {x : Rd.W2} {d : Rd.Dt} {w : World}
theorem St.one (h : St w g hi o (x :: ws) d n) : x.1.length ≤ 140737488355328:=by
 obtain ⟨v,_,⟨A,c,_,_,_,h4,_⟩,_⟩:=h
 exact h4 x (by simp)
theorem Kb.on {w1 w2 : World} (h : Kb g w.heap.size w w1) (h2 : Kb g w1.heap.size w1 w2) : Kb g w.heap.size w w2:=h.trans (h2.mono h.size)
theorem Kb.onB {w1 w2 : World} (h : Kb g w.heap.size w w1) (h2 : Below w1.heap.size w1 w2) : Kb g w.heap.size w w2:=h.trans (Kb.of_below (h2.mono h.size))
theorem rdNumberR_ok (h : St w g hi o (x :: ws) d n) (hx : x.2 = false) (B : Nat) (hB : B = 8 ∨ B = 16 ∨ B = 32) {v : Nat} (hv : Rd.num x.1 (2 ^ B - 1) = some v) :
 Calls Tryz.prog 116 #[.pointer (some ⟨g,0,none⟩),.int .i64 (B : Nat)] w fun e w' => e = .returned (.int .u32 v) ∧ St w' g hi o ws d n ∧ Kb g w.heap.size w w':=by
 have hl:=h.one
 have HN:=Lib.hid (rdPlain_any h hx)
 have HC:=Lib.hid (fun W : World=>rdDigits_ok (.pointer (some ⟨g,0,none⟩)) ⟨x.1.toArray⟩ W B hB (by rw [mk_size];exact hl) (by simpa using hv))
 clear h hB hv hl
 go_enter Tryz.func116,Tryz.ntmps116
 go_wp2_with (first
  | (go_at_call 117;refine HN.out.mono ?_;rintro e w1 ⟨rfl,S1,K1⟩;have HS:=Lib.hid S1;have HK:=Lib.hid K1;clear S1 K1)
  | (go_at_call 142;refine (HC.out _).mono ?_;rintro e w2 ⟨rfl,B2⟩;have HB:=Lib.hid B2;clear B2))
 go_ret
 exact ⟨rfl,HS.out.keep HB.out,HK.out.onB HB.out⟩
end
end Go.Proofs.YtekafhogiambaaaGreatDoor
