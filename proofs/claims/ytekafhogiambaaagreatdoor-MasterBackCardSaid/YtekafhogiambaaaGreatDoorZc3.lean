/- Texts of the proofs, merged. -/
import Derived.Test.YtekafhogiambaaaGreatDoorRows
import Derived.WalkKit
import Derived.WalkSpells
import Derived.WalkLawsBesides
import Derived.Lib.Hide
import Derived.Deep.QuietTactic
import Derived.BigQuiet
import Derived.Lib.Strings
import Derived.ArgAppend
import Derived.Laws.AppendOwnNone
import Derived.Lib.FrozenHead
import Derived.Test.YtekafhogiambaaaGreatDoorZc1
import Derived.Deep.MidRow
set_option maxRecDepth 100000
namespace Go.Proofs.YtekafhogiambaaaGreatDoor
open Go.RowKit
def bv (l : List UInt8) : List Value:=l.map fun c=>Value.int .u8 (c.toNat : Int)
theorem bv_append (a b : List UInt8) : bv (a ++ b) = bv a ++ bv b:=by simp [bv]
theorem bv_length (a : List UInt8) : (bv a).length = a.length:=by simp [bv]
theorem Tryz.infoByte : (Tryz.prog.info? 5).map (fun i=>(i.zero,i.size,i.bytes)) = some (some (.int .u8 0),1,1):=by kernel_rfl
theorem Tryz.infoString : (Tryz.prog.info? 9).map (fun i=>(i.zero,i.size,i.bytes)) = some (some (.string ⟨#[]⟩),1,16):=by kernel_rfl
theorem ret_int {k : IntKind} {a b : Int} (h : a = b) : Ending.returned (.int k a) = .returned (.int k b):=by rw [h]
theorem ret_bool {a b : Bool} (h : a = b) : Ending.returned (.bool a) = .returned (.bool b):=by rw [h]
theorem own_cells {w : World} {base : Nat} {e : TypeId} {g : Nat} {n c : Nat} {xs : List Value} (h : w.ownsRow base e 1 (.slice (some ⟨g,0,none⟩) n c) n xs) (j : Nat) (u : Value) (hu : xs[j]? = some u) : w.cell? ⟨g,j,none⟩ = some u:=by
 have:=h.cells (g:=g) rfl j u hu
 unfold Addr.add at this
 split at this <;> simp_all
section
variable {P : Program} (w : World)
theorem run_convert_own (src dst e : TypeId) (hs : P.underlying src = some (.slice e)) (he : P.underlying e = some (.int .u8)) (hd : P.underlying dst = some .string)
 (base n : Nat) (v : Value) (l : List UInt8) (hown : w.ownsRow base e 1 v n (bv l)) : (convert src dst v).run P w = .ok (.string ⟨l.toArray⟩) w:=by
 have hl : n = l.length:=by have:=hown.1;simp [bv] at this;omega
 rcases hown.2 with ⟨rfl,h0⟩ | ⟨g,cap,cur,rfl,hb,hg,hnc,hm,hcs,ht⟩
 · have : l = []:=List.eq_nil_of_length_eq_zero (by omega)
   subst this
   rw [run_convert_bytes_string w src dst e none 0 0 hs he hd]
   unfold Conv.bytesToString
   rfl
 · subst hl
   refine run_convert_bytes_back w src dst e ⟨g,0,none⟩ cap l hs he hd ?_
   intro j hj
   exact hown.cells (g:=g) rfl j _ (by simp [bv,hj])
theorem wpList_convert_own {ops : Array Oper} {rest : List Oper} {o : Oper} {a : Act} {Q : Exit → Act → World → Prop} (hgd : o.guard = none) (src dst : TypeId) (x : Operand) (ho : o.op = .convert src dst x)
 (e : TypeId) (hs : P.underlying src = some (.slice e)) (he : P.underlying e = some (.int .u8)) (hd : P.underlying dst = some .string)
 (base n : Nat) (v : Value) (l : List UInt8) (hx : a.eval x = v) (hown : w.ownsRow base e 1 v n (bv l))
 (h : wpList P ops Q rest (a.put o.dst (.string ⟨l.toArray⟩)) w) : wpList P ops Q (o :: rest) a w:=by
 refine wpList_plain hgd fun _ hK=>?_
 unfold Oper.wp execOp
 simp only [ho,hx,Sem.run_bind,Sem.run_pure,Result.andThen_ok,run_convert_own w src dst e hs he hd base n v l hown]
 exact hK _ _ h
theorem wpList_convert_cells {ops : Array Oper} {rest : List Oper} {o : Oper} {a : Act} {Q : Exit → Act → World → Prop} (hgd : o.guard = none) (src dst : TypeId) (x : Operand) (ho : o.op = .convert src dst x)
 (e : TypeId) (hs : P.underlying src = some (.slice e)) (he : P.underlying e = some (.int .u8)) (hd : P.underlying dst = some .string)
 (g n cap : Nat) (l : List UInt8) (hn : n = l.length) (hx : a.eval x = .slice (some ⟨g,0,none⟩) n cap) (hc : ∀ j (hj : j < l.length),w.cell? ⟨g,j,none⟩ = some (.int .u8 (l[j].toNat : Int)))
 (h : wpList P ops Q rest (a.put o.dst (.string ⟨l.toArray⟩)) w) : wpList P ops Q (o :: rest) a w:=by
 subst hn
 have hr:=run_convert_bytes_back w src dst e ⟨g,0,none⟩ cap l hs he hd (fun j hj=>by
  have : (⟨g,0,none⟩ : Addr).add j = ⟨g,j,none⟩:=by unfold Addr.add;split <;> simp_all
  rw [this];exact hc j hj)
 refine wpList_plain hgd fun _ hK=>?_
 unfold Oper.wp execOp
 simp only [ho,hx,Sem.run_bind,Sem.run_pure,Result.andThen_ok,hr]
 exact hK _ _ h
end
theorem cell_set_same {w : World} {p : Addr} {u : Value} (v : Value) (h : w.cell? p = some u) : (w.setCell p v).cell? p = some v:=World.cell?_setCell_same' w p v (by simp [h])
theorem cell_set_ne {w : World} {p q : Addr} (v : Value) (h : p ≠ q) : (w.setCell p v).cell? q = w.cell? q:=by
 apply World.cell?_setCell_other
 exact h
theorem cell_set_off {w : World} {g i j : Nat} (v : Value) (h : i ≠ j) : (w.setCell ⟨g,i,none⟩ v).cell? ⟨g,j,none⟩ = w.cell? ⟨g,j,none⟩:=cell_set_ne v (fun e=>h (by injection e))
def Has (w : World) (g : Nat) (t : TypeId) (cs : Array Value) : Prop:=w.heap[g]? = some (.cells cs t (0,0))
section
variable {w w' : World} {g : Nat} {t : TypeId} {cs : Array Value}
theorem Has.lt (h : Has w g t cs) : g < w.heap.size:=(Array.getElem?_eq_some_iff.1 h).1
theorem Has.cell (h : Has w g t cs) (i : Nat) : w.cell? ⟨g,i,none⟩ = cs[i]?:=cell_of_row w g i cs t (0,0) h
theorem Has.free (h : Has w g t cs) (i : Nat) : w.frozen? ⟨g,i,none⟩ = false:=frozen_of_row w g i cs t h
theorem Has.fresh (w : World) (t : TypeId) (cs : Array Value) : Has (w.alloc (.cells cs t)) w.heap.size t cs:=heap_alloc_new w _
theorem Has.alloc (h : Has w g t cs) (o : Obj) : Has (w.alloc o) g t cs:=(Below.heap_alloc w o g h.lt).trans h
theorem Has.set (h : Has w g t cs) (i : Nat) (u : Value) : Has (w.setCell ⟨g,i,none⟩ u) g t (cs.setIfInBounds i u):=heap_setCell_same w g i cs t u h
theorem Has.far (h : Has w g t cs) {p : Addr} (hp : g ≠ p.block) (u : Value) : Has (w.setCell p u) g t cs:=(heap_setCell_other w p g u hp).trans h
theorem Has.row (h : Has w g t cs) (ds : Array Value) : Has (w.setRow g ds) g t ds:=setRow_heap w g cs ds t (0,0) h
theorem Has.rowFar (h : Has w g t cs) {g' : Nat} (hp : g ≠ g') (ds : Array Value) : Has (w.setRow g' ds) g t cs:=(setRow_other w g' g ds hp).trans h
theorem Has.below {B : Nat} (h : Has w g t cs) (hb : Below B w w') (hg : g < B) : Has w' g t cs:=(hb.block g hg).trans h
end
theorem below_setRow {B : Nat} {a w : World} (h : Below B a w) {g : Nat} (hg : B ≤ g) (cs : Array Value) : Below B a (w.setRow g cs) :=
 ⟨h.os,h.tape,h.output,by simpa using h.size,fun k hk=>(setRow_other w g k cs (by omega)).trans (h.block k hk)⟩
theorem results_row_tmp {P : Program} {fn : Func} {p u : Tmp} {ty : TypeId} (h : fn.results = #[.cell p ty,.tmp u]) (tmps : Array Value) (w : World) (g : Nat) (t : TypeId) (cs : Array Value) (d : TypeDesc)
 (hp : tmps.getD p undef = .pointer (some ⟨g,0,none⟩)) (hg : Has w g t cs)
 (hu : P.underlying ty = some d) (hd : (match d with | .struct _ | .array _ _=>true | _=>false) = true) (hi : (P.info? ty).map (·.size) = some cs.size) :
 (results fn tmps).run P w = .ok (.tuple #[.agg cs,tmps.getD u undef]) w:=by
 rw [results_cell_tmp h tmps P w,hp]
 have : (asAddr (.pointer (some ⟨g,0,none⟩))).run P w = .ok ⟨g,0,none⟩ w:=rfl
 rw [this]
 simp only [Result.andThen_ok,run_loadVar_row w g t ty cs (0,0) d hg hu hd hi]
theorem string_eq {s : ByteArray} {l : List UInt8} (h : s.data.toList = l) : s = ⟨l.toArray⟩:=by
 subst h;rfl
theorem extract_list (s : ByteArray) (a b : Nat) : (s.extract a b).data.toList = (s.data.toList.drop a).take (b - a):=by
 rw [Lib.extract_data]
abbrev sv (l : List UInt8) : Value:=.string ⟨l.toArray⟩
def svs (ls : List (List UInt8)) : List Value:=ls.map sv
theorem svs_append (a b : List (List UInt8)) : svs (a ++ b) = svs a ++ svs b:=by simp [svs]
theorem below_drewN {B : Nat} {a w : World} (h : Below B a w) (n : Nat) : Below B a (w.drewN n):=⟨h.os,h.tape,h.output,h.size,h.block⟩
theorem own_mono {w : World} {b b' : Nat} {e : TypeId} {size : Nat} {v : Value} {n : Nat} {xs : List Value} (h : w.ownsRow b e size v n xs) (hb : b' ≤ b) : w.ownsRow b' e size v n xs:=by
 refine ⟨h.1,?_⟩
 rcases h.2 with hn | ⟨g,cap,cur,hv,hg,rest⟩
 · exact .inl hn
 · exact .inr ⟨g,cap,cur,hv,Nat.le_trans hb hg,rest⟩
theorem own_below {w w' : World} {b B : Nat} {e : TypeId} {size : Nat} {v : Value} {n : Nat} {xs : List Value} (h : w.ownsRow b e size v n xs) (hb : Below B w w') (hB : w.heap.size ≤ B) : w'.ownsRow b e size v n xs:=by
 refine ⟨h.1,?_⟩
 rcases h.2 with hn | ⟨g,cap,cur,hv,hg,hh,rest⟩
 · exact .inl hn
 · exact .inr ⟨g,cap,cur,hv,hg,(hb.block g (Nat.lt_of_lt_of_le (Array.getElem?_eq_some_iff.1 hh).1 hB)).trans hh,rest⟩
def Rd (w : World) (B : Nat) (v : Value) (ls : List (List UInt8)) : Prop :=
 ∃ A c,v = .slice A ls.length c ∧ ls.length ≤ c ∧ (0 < ls.length → ∃ g o,A = some ⟨g,o,none⟩ ∧ g < B ∧ ∀ j (h : j < ls.length),w.cell? ⟨g,o + j,none⟩ = some (sv ls[j]))
theorem Rd.of_own {w : World} {b : Nat} {e : TypeId} {v : Value} {ls : List (List UInt8)} (h : w.ownsRow b e 1 v ls.length (svs ls)) : Rd w w.heap.size v ls:=by
 rcases h.2 with ⟨rfl,h0⟩ | ⟨g,cap,cur,rfl,hb,hg,hc,_⟩
 · exact ⟨none,0,by rw [h0],by omega,fun h=>by omega⟩
 · refine ⟨_,_,rfl,hc,fun _=>⟨g,0,rfl,(Array.getElem?_eq_some_iff.1 hg).1,fun j hj=>?_⟩⟩
   rw [Nat.zero_add]
   exact own_cells h j _ (by simp [svs,hj])
theorem bv_take_succ (s : ByteArray) (f : UInt8 → UInt8) (k : Nat) (hk : k < s.size) : bv ((s.data.toList.take (k + 1)).map f) = bv ((s.data.toList.take k).map f) ++ [.int .u8 ((f s[k]).toNat : Int)]:=by
 rw [List.take_succ_eq_append_getElem (by simpa using hk)]
 simp [bv];rfl
def Bs (w : World) (lo hi : Nat) (A : Option Addr) (l : List UInt8) : Prop :=
 0 < l.length → ∃ g o,A = some ⟨g,o,none⟩ ∧ lo ≤ g ∧ g < hi ∧ ∀ j (h : j < l.length),w.cell? ⟨g,o + j,none⟩ = some (.int .u8 (l[j].toNat : Int))
theorem addr_add (g o j : Nat) : (⟨g,o,none⟩ : Addr).add j = ⟨g,o + j,none⟩:=by unfold Addr.add;split <;> simp_all
section
variable {w w' : World} {lo hi lo' hi' : Nat} {A : Option Addr} {l : List UInt8}
theorem Bs.nil : Bs w lo hi A []:=fun h=>absurd h (by simp)
theorem Bs.keep (h : Bs w lo hi A l) (hb : Below hi w w') : Bs w' lo hi A l:=fun h0=>by
 obtain ⟨g,o,rfl,hlo,hhi,hc⟩:=h h0
 exact ⟨g,o,rfl,hlo,hhi,fun j hj=>(hb.cell (p:=⟨g,o + j,none⟩) hhi).trans (hc j hj)⟩
theorem Bs.more (h : Bs w lo hi A l) (h1 : lo' ≤ lo) (h2 : hi ≤ hi') : Bs w lo' hi' A l:=fun h0=>by
 obtain ⟨g,o,rfl,hlo,hhi,hc⟩:=h h0
 exact ⟨g,o,rfl,by omega,by omega,hc⟩
theorem Bs.cell (h : Bs w lo hi A l) {k : Nat} (hk : k < l.length) : ∃ g o,A = some ⟨g,o,none⟩ ∧ lo ≤ g ∧ g < hi ∧ w.cell? ⟨g,o + k,none⟩ = some (.int .u8 (l[k].toNat : Int)):=by
 obtain ⟨g,o,rfl,hlo,hhi,hc⟩:=h (by omega)
 exact ⟨g,o,rfl,hlo,hhi,hc k hk⟩
theorem Bs.drewN (h : Bs w lo hi A l) (n : Nat) : Bs (w.drewN n) lo hi A l:=h
theorem Bs.of_own {e : TypeId} {n c : Nat} (h : w.ownsRow lo e 1 (.slice A n c) n (bv l)) : Bs w lo w.heap.size A l:=fun h0=>by
 have hn : n = l.length:=by have:=h.1;simp [bv] at this;omega
 rcases h.2 with ⟨hv,h00⟩ | ⟨g,cap,cur,hv,hb,hg,_⟩
 · omega
 · injection hv with h1 h2 h3
   subst h1
   refine ⟨g,0,rfl,hb,(Array.getElem?_eq_some_iff.1 hg).1,fun j hj=>?_⟩
   have:=h.cells (g:=g) rfl j (.int .u8 (l[j].toNat : Int)) (by simp [bv,hj])
   rwa [addr_add] at this
end
theorem bv_get (l : List UInt8) (j : Nat) (h : j < l.length) : (bv l)[j]? = some (.int .u8 (l[j].toNat : Int)):=by simp [bv,h]
theorem bv_get? {l : List UInt8} {j : Nat} {u : Value} (h : (bv l)[j]? = some u) : ∃ hj : j < l.length,u = .int .u8 (l[j].toNat : Int):=by
 have hj : j < l.length:=by have:=(List.getElem?_eq_some_iff.1 h).1;simpa [bv] using this
 refine ⟨hj,?_⟩
 rw [bv_get l j hj] at h
 injection h with h
 exact h.symm
theorem bv_one (l : List UInt8) : ∀ u ∈ bv l,u.oneCell' = true:=by
 intro u hu
 simp only [bv,List.mem_map] at hu
 obtain ⟨c,_,rfl⟩:=hu
 rfl
theorem Bs.at_ {w : World} {lo hi : Nat} {b : Addr} {l : List UInt8} (h : Bs w lo hi (some b) l) : ∀ j u,(bv l)[j]? = some u → w.cell? (b.add j) = some u:=by
 intro j u hu
 obtain ⟨hj,rfl⟩:=bv_get? hu
 obtain ⟨g,o,hh,_,_,hc⟩:=h (by omega)
 injection hh with hh
 subst hh
 rw [addr_add]
 exact hc j hj
section
variable {P : Program} {w : World}
theorem run_convert_bs (src dst e : TypeId) (hs : P.underlying src = some (.slice e)) (he : P.underlying e = some (.int .u8)) (hd : P.underlying dst = some .string)
 (lo hi : Nat) (A : Option Addr) (n c : Nat) (l : List UInt8) (hn : n = l.length) (h : Bs w lo hi A l) : (convert src dst (.slice A n c)).run P w = .ok (.string ⟨l.toArray⟩) w:=by
 subst hn
 rcases A with _ | b
 · have : l = []:=by
    rcases l with _ | ⟨x,r⟩
    · rfl
    · obtain ⟨g,o,hh,_⟩:=h (by simp);cases hh
   subst this
   show (convert src dst (.slice none 0 c)).run P w = _
   rw [run_convert_bytes_string w src dst e none 0 c hs he hd]
   unfold Conv.bytesToString
   rfl
 · refine run_convert_bytes_back w src dst e b c l hs he hd ?_
   intro j hj
   exact h.at_ j _ (bv_get l j hj)
theorem wpList_convert_bs {ops : Array Oper} {rest : List Oper} {o : Oper} {a : Act} {Q : Exit → Act → World → Prop} (hgd : o.guard = none) (src dst : TypeId) (x : Operand) (ho : o.op = .convert src dst x)
 (e : TypeId) (hs : P.underlying src = some (.slice e)) (he : P.underlying e = some (.int .u8)) (hd : P.underlying dst = some .string)
 (lo hi : Nat) (A : Option Addr) (n c : Nat) (l : List UInt8) (hn : n = l.length) (hx : a.eval x = .slice A n c) (hr : Bs w lo hi A l)
 (h : wpList P ops Q rest (a.put o.dst (.string ⟨l.toArray⟩)) w) : wpList P ops Q (o :: rest) a w:=by
 refine wpList_plain hgd fun _ hK=>?_
 unfold Oper.wp execOp
 simp only [ho,hx,Sem.run_bind,Sem.run_pure,Result.andThen_ok,run_convert_bs (w:=w) src dst e hs he hd lo hi A n c l hn hr]
 exact hK _ _ h
theorem wpList_append_bs {ops : Array Oper} {rest : List Oper} {o : Oper} {a : Act} {Q : Exit → Act → World → Prop} (hgd : o.guard = none) (s x : Operand) (t : TypeId)
 (ho : o.op = .call { callee:=.builtin .append,args:=#[s,x],argTypes:=#[t,t] })
 (base : Nat) (e : TypeId) (i : TypeInfo) (z : Value) (ht : P.underlying t = some (.slice e)) (hi : P.info? e = some i) (hz : i.zero = some z)
 (hsize : i.size = 1) (hby : i.bytes = 1) (hzs : z.cells.size = 1)
 (v : Value) (n : Nat) (xs : List Value) (hs : a.eval s = v) (hown : w.ownsRow base e 1 v n xs)
 (lo hi' : Nat) (A : Option Addr) (c : Nat) (l : List UInt8) (hx : a.eval x = .slice A l.length c) (hr : Bs w lo hi' A l) (hnil : A = none → c = 0)
 (h63 : n + l.length ≤ 140737488355328) (hbase : base ≤ w.heap.size)
 (h : ∀ v' w',w'.ownsRow base e 1 v' (n + l.length) (xs ++ bv l) → w.grownBy w' v.ownBlock → wpList P ops Q rest (a.put o.dst v') w') : wpList P ops Q (o :: rest) a w:=by
 rcases A with _ | ad
 · have h0 : l.length = 0:=by
    rcases Nat.eq_zero_or_pos l.length with h0 | h0
    · exact h0
    · obtain ⟨g,o,hh,_⟩:=hr h0;cases hh
   have hl : l = []:=List.eq_nil_of_length_eq_zero h0
   subst hl
   have:=hnil rfl
   subst this
   exact wpList_append_own_none hgd s x t ho base e i 1 ht hi v n xs hs hown hx (h _ _ (by simpa [bv] using hown) (World.grownBy.refl w _))
 · exact wpList_append_own w hgd s x t ho base e i z 1 1 ht hi hz hsize hby hzs (by decide) v n xs hs hown ad l.length c (bv l) hx (by simp [bv]) hr.at_ (bv_one l) (by unfold maxLen;omega) (by omega) hbase (fun v' w' a b _=>h v' w' a b)
end
theorem Bs.alloc {w : World} {lo hi : Nat} {A : Option Addr} {l : List UInt8} (h : Bs w lo hi A l) (hhi : hi ≤ w.heap.size) (o : Obj) : Bs (w.alloc o) lo hi A l:=h.keep ((Below.refl _ _).alloc hhi o)
theorem Bs.none_nil {w : World} {lo hi : Nat} {l : List UInt8} (h : Bs w lo hi none l) : l = []:=by
 rcases l with _ | ⟨x,r⟩
 · rfl
 · obtain ⟨g,o,hh,_⟩:=h (by simp);cases hh
theorem wpList_append_full {P : Program} {w : World} {ops : Array Oper} {rest : List Oper} {o : Oper} {a : Act} {Q : Exit → Act → World → Prop} (hgd : o.guard = none) (s x : Operand) (t : TypeId)
 (ho : o.op = .call { callee:=.builtin .append,args:=#[s,x],argTypes:=#[t,t] })
 (e : TypeId) (i : TypeInfo) (z : Value) (ht : P.underlying t = some (.slice e)) (hi : P.info? e = some i) (hz : i.zero = some z)
 (hsize : i.size = 1) (hby : i.bytes = 1) (hzs : z.cells.size = 1)
 (lo hi' : Nat) (A : Option Addr) (l : List UInt8) (hs : a.eval s = .slice A l.length l.length) (hr : Bs w lo hi' A l) (hhi : hi' ≤ w.heap.size)
 (u : Value) (hu : u.oneCell' = true) (et : TypeId) (hx : a.eval x = .slice (some ⟨w.heap.size,0,none⟩) 1 1)
 (h63 : l.length + 1 ≤ 140737488355328)
 (h : ∀ v' w',w'.ownsRow w.heap.size e 1 v' (l.length + 1) (bv l ++ [u]) → Below w.heap.size w w' → wpList P ops Q rest (a.put o.dst v') w') : wpList P ops Q (o :: rest) a (w.alloc (.cells #[u] et)):=by
 refine wpList_append_grows _ hgd s x t ho e i z 1 1 ht hi hz hsize hby hzs (by decide) A l.length l.length (bv l) hs ?_ (by simp [bv]) ?_ ⟨w.heap.size,0,none⟩ 1 1 [u] hx rfl (cell_one_new _ _ _) ?_ (by omega) (by unfold maxLen;omega) (by omega) (fun v' w' h1 h2=>h v' w' (own_mono h1 (by simp)) ?_)
 · rintro rfl
   have:=hr.none_nil
   subst this
   exact ⟨rfl,rfl⟩
 · rintro b rfl j y hj
   exact (hr.alloc hhi _).at_ j y hj
 · intro y hy
   simp at hy
   subst hy
   exact hu
 · exact ((Below.refl _ _).alloc (Nat.le_refl _) _).grown h2 (by simp) (by simp)
theorem wpList_append_one {P : Program} {w : World} {ops : Array Oper} {rest : List Oper} {o : Oper} {a : Act} {Q : Exit → Act → World → Prop} (hgd : o.guard = none) (s x : Operand) (t : TypeId)
 (ho : o.op = .call { callee:=.builtin .append,args:=#[s,x],argTypes:=#[t,t] })
 (e : TypeId) (i : TypeInfo) (z : Value) (ht : P.underlying t = some (.slice e)) (hi : P.info? e = some i) (hz : i.zero = some z)
 (hsize : i.size = 1) (hby : i.bytes = 1) (hzs : z.cells.size = 1)
 (base : Nat) (w0 : World) (v : Value) (n : Nat) (xs : List Value) (hs : a.eval s = v) (hown : w.ownsRow base e 1 v n xs) (hb : Below base w0 w) (hbase : base ≤ w0.heap.size)
 (u : Value) (hu : u.oneCell' = true) (et : TypeId) (hx : a.eval x = .slice (some ⟨w.heap.size,0,none⟩) 1 1)
 (h63 : n + 1 ≤ 140737488355328)
 (h : ∀ v' w',w'.ownsRow base e 1 v' (n + 1) (xs ++ [u]) → Below base w0 w' → wpList P ops Q rest (a.put o.dst v') w') : wpList P ops Q (o :: rest) a (w.alloc (.cells #[u] et)):=by
 have hbs:=hb.size
 refine wpList_append_own _ hgd s x t ho base e i z 1 1 ht hi hz hsize hby hzs (by decide) v n xs hs (hown.alloc _) ⟨w.heap.size,0,none⟩ 1 1 [u] hx rfl (cell_one_new _ _ _) ?_ (by unfold maxLen;omega) (by omega) (by simp;omega) (fun v' w' h1 h2 _=>h v' w' h1 ?_)
 · intro y hy
   simp at hy
   subst hy
   exact hu
 · exact (hb.alloc (by omega) _).grown h2 (by simp;omega) (fun k hk=>(hown.lt k hk).1)
theorem own_form {w : World} {B n : Nat} {e : TypeId} {v : Value} {xs : List Value} (h : w.ownsRow B e 1 v n xs) : ∃ ad cp,v = .slice ad n cp:=by
 rcases h.2 with ⟨rfl,h0⟩ | ⟨g',cap,cur,rfl,_⟩
 · exact ⟨none,0,by rw [h0]⟩
 · exact ⟨_,_,rfl⟩
theorem own_pos {w : World} {B n : Nat} {e : TypeId} {v : Value} {xs : List Value} (h : w.ownsRow B e 1 v n xs) (hn : 0 < n) : ∃ g cp,v = .slice (some ⟨g,0,none⟩) n cp ∧ n ≤ cp ∧ B ≤ g ∧ g < w.heap.size:=by
 rcases h.2 with ⟨rfl,h0⟩ | ⟨g',cap,cur,rfl,hb,hg,hc,_⟩
 · omega
 · exact ⟨g',cap,rfl,hc,hb,(Array.getElem?_eq_some_iff.1 hg).1⟩
theorem own_to {w : World} {B n m : Nat} {e : TypeId} {v : Value} {xs ys : List Value} (h : w.ownsRow B e 1 v n xs) (hn : n = m) (hx : xs = ys) : w.ownsRow B e 1 v m ys:=by subst hn hx;exact h
theorem strCells_bv (s : ByteArray) : Lib.strCells s = bv s.data.toList:=by simp [Lib.strCells,bv]
def Cut (w : World) (base : Nat) (e : TypeId) (v : Value) (n : Nat) (xs : List Value) : Prop :=
 ∃ g cp cq,v = .slice (some ⟨g,0,none⟩) n cp ∧ n ≤ cp ∧ w.ownsRow base e 1 (.slice (some ⟨g,0,none⟩) n cq) n xs ∧ (cp = n ∨ cp = cq)
theorem Cut.of_own {w : World} {B n : Nat} {e : TypeId} {v : Value} {xs : List Value} (h : w.ownsRow B e 1 v n xs) (hn : 0 < n) : Cut w B e v n xs:=by
 obtain ⟨g,cp,rfl,hc,_⟩:=own_pos h hn
 exact ⟨g,cp,cp,rfl,hc,h,.inr rfl⟩
theorem below_self {w w' : World} {B : Nat} {row : Option Nat} (h : w.grownBy w' row) (hB : B ≤ w.heap.size) (hr : ∀ k,row = some k → B ≤ k) : Below B w w':=(Below.refl B w).grown h hB hr
section
variable {P : Program} {w : World}
theorem run_append_string_full (t u ty e : TypeId) (i : TypeInfo) (ht : P.underlying t = some (.slice e)) (hu : P.underlying u = some .string) (hi : P.info? e = some i) (hz : i.zero = some (.int .u8 0))
 (hsize : i.size = 1) (hby : i.bytes = 1) (base : Nat) (v : Value) (n : Nat) (xs : List Value) (h : Cut w base e v n xs) (s : ByteArray)
 (hb : n + s.size ≤ 140737488355328) (hbase : base ≤ w.heap.size) :
 ∃ v' w',(Builtin.append_ #[t,u] ty #[v,.string s]).run P w = .ok v' w' ∧ Cut w' base e v' (n + s.size) (xs ++ bv s.data.toList) ∧ Below base w w':=by
 obtain ⟨g,cp,cq,rfl,hcp,ho,hq⟩:=h
 have hlt:=ho.lt g rfl
 by_cases hs : cp = cq
 · subst hs
   obtain ⟨v',w',hr,h2,h3,hiff⟩:=Lib.run_append_own_string (P:=P) w base t u ty e i ht hu hi hz hsize hby _ n xs ho s (by unfold maxLen;omega) hb hbase
   refine ⟨v',w',hr,?_,below_self h3 hbase (fun k hk=>(ho.lt k hk).1)⟩
   rw [← strCells_bv]
   rcases Nat.eq_zero_or_pos (n + s.size) with h0 | h0
   · rcases h2.2 with ⟨rfl,_⟩ | ⟨g',cap,cur,rfl,_,_,hc',_⟩
     · have:=(hiff.1 rfl).1
       injection this with this
       cases this
     · exact ⟨g',cap,cap,rfl,hc',h2,.inr rfl⟩
   · exact Cut.of_own h2 h0
 · have hcn : cp = n:=by rcases hq with h | h <;> omega
   subst hcn
   by_cases h0 : s.size = 0
   · have hn : bv s.data.toList = []:=List.eq_nil_of_length_eq_zero (by rw [bv_length];simpa using h0)
     refine ⟨.slice (some ⟨g,0,none⟩) cp cp,w,?_,?_,Below.refl _ _⟩
     · have hf:=Lib.run_firstCells_string (P:=P) w 1 s
       have hn2 : Lib.strCells s = []:=by rw [strCells_bv];exact hn
       rw [h0,hn2] at hf
       simp [Builtin.append_,run_underlying ht,run_underlying hu,sizeOf,typeInfo,hi,hsize,Builtin.lenOf,h0,hf,storeCells]
     · rw [h0,hn,List.append_nil]
       exact ⟨g,cp,cq,rfl,hcp,ho,.inl rfl⟩
   · have hr:=Lib.run_append_grow_string (P:=P) w t u ty e i (.int .u8 0) ht hu hi hz ⟨g,0,none⟩ cp cp xs (by rw [hsize];exact ho.1) (ho.cells (g:=g) rfl) s (by omega) (by omega) (by rw [hby];exact growslice_fits (by omega) (by omega))
     have hge:=grownCap_ge w (cp + s.size) cp e
     have hcm : grownCap w (cp + s.size) cp e ≤ maxLen:=grownCap_le_maxLen w (cp + s.size) cp e (by unfold maxLen;omega)
     have hxl : xs.length = cp:=by have:=ho.1;omega
     refine ⟨_,_,hr,Cut.of_own ⟨?_,.inr ⟨w.heap.size,_,_,rfl,hbase,heap_alloc_new w.drew _,hge,hcm,?_,?_⟩⟩ (by omega),((Below.refl _ _).drew).alloc hbase _⟩
     · rw [List.length_append,bv_length,hxl];simp
     · have hz1 : (Value.int IntKind.u8 0).cells.size = 1:=rfl
       simp only [Array.size_append,List.size_toArray,size_zeroCells,hz1,hxl,Lib.strCells_length]
       omega
     · have hlen : (xs ++ bv s.data.toList).length = (cp + s.size) * 1:=by rw [List.length_append,bv_length,hxl];simp
       simp only [Array.toList_append,List.append_assoc,strCells_bv]
       rw [← List.append_assoc,← hlen]
       exact List.take_left
end
section
variable {P : Program} {w : World}
theorem wpList_append_run {ops : Array Oper} {rest : List Oper} {o : Oper} {a : Act} {Q : Exit → Act → World → Prop} (hgd : o.guard = none) (s x : Operand) (t u : TypeId)
 (ho : o.op = .call { callee:=.builtin .append,args:=#[s,x],argTypes:=#[t,u] }) (v y : Value) (hs : a.eval s = v) (hx : a.eval x = y) {R : Value → World → Prop}
 (hrun : ∃ v' w',(Builtin.append_ #[t,u] o.type #[v,y]).run P w = .ok v' w' ∧ R v' w')
 (h : ∀ v' w',R v' w' → wpList P ops Q rest (a.put o.dst v') w') : wpList P ops Q (o :: rest) a w:=by
 refine wpList_plain hgd fun K hK=>?_
 obtain ⟨v',w',hr,h2⟩:=hrun
 unfold Oper.wp execOp
 simp only [ho,resolve,invoke,builtin,Sem.run_bind,Sem.run_pure,Result.andThen_ok,List.map_toArray,List.map_cons,List.map_nil,hs,hx,hr]
 exact hK _ _ (h v' w' h2)
end
theorem Bs.sub {w : World} {lo hi g o : Nat} {l : List UInt8} (h : Bs w lo hi (some ⟨g,o,none⟩) l) (k m : Nat) (hk : k + m ≤ l.length) : Bs w lo hi (some ⟨g,o + k,none⟩) ((l.drop k).take m):=fun h0=>by
 have hl : ((l.drop k).take m).length = m:=by rw [List.length_take,List.length_drop];omega
 obtain ⟨g',o',hh,hlo,hhi,hc⟩:=h (by omega)
 injection hh with hh
 injection hh with h1 h2
 subst h1 h2
 refine ⟨g,o + k,rfl,hlo,hhi,fun j hj=>?_⟩
 have:=hc (k + j) (by omega)
 rw [← Nat.add_assoc] at this
 rw [this]
 simp
theorem Has.grown {w w' : World} {g : Nat} {t : TypeId} {cs : Array Value} {row : Option Nat} (h : Has w g t cs) (hg : w.grownBy w' row) (hne : some g ≠ row) : Has w' g t cs:=(hg.block g h.lt hne).trans h
theorem Bs.grown {w w' : World} {lo hi k : Nat} {A : Option Addr} {l : List UInt8} (h : Bs w lo hi A l) (hg : w.grownBy w' (some k)) (hk : k < lo ∨ hi ≤ k) : Bs w' lo hi A l:=fun h0=>by
 obtain ⟨g,o,rfl,h1,h2,hc⟩:=h h0
 exact ⟨g,o,rfl,h1,h2,fun j hj=>hg.cell (hc j hj) (by simp;omega)⟩
theorem grown_set {w w' : World} {k : Nat} (h : w.grownBy w' (some k)) (i : Nat) (u : Value) : w.grownBy (w'.setCell ⟨k,i,none⟩ u) (some k):=by
 refine ⟨h.os,h.tape,h.output,by simpa using h.size,fun j hj hne=>?_⟩
 rw [heap_setCell_other _ ⟨k,i,none⟩ j u (by intro e;subst e;exact hne rfl)]
 exact h.block j hj hne
theorem wpList_make_lc {P : Program} {w : World} {ops : Array Oper} {rest : List Oper} {o : Oper} {a : Act} {Q : Exit → Act → World → Prop}
 (hg : o.guard = none) (l c : Operand) (t : TypeId) (hop : o.op = Op.makeSlice t l c)
 (e : TypeId) (i : TypeInfo) (h1 : P.underlying t = some (.slice e)) (h2 : P.info? e = some i) (h3 : i.zero = some (.int .u8 0)) (h4 : i.size = 1) (h5 : i.bytes = 1)
 (kl kc : IntKind) (L C : Int) (n m : Nat) (hl : a.eval l = .int kl L) (hc : a.eval c = .int kc C) (hL : L = (n : Int)) (hC : C = (m : Int)) (hnm : n ≤ m) (b3 : m ≤ 140737488355328)
 (hK : ∀ w',Has w' w.heap.size e (List.replicate m (Value.int .u8 0)).toArray → Below w.heap.size w w' → w'.heap.size = w.heap.size + 1 → wpList P ops Q rest (a.put o.dst (.slice (some ⟨w.heap.size,0,none⟩) n m)) w') :
 wpList P ops Q (o :: rest) a w:=by
 refine wpList_plain hg fun K hK' => ?_
 have hrun:=run_make (P:=P) w t e i (.int .u8 0) h1 h2 h3 kl kc n m (by omega) (by omega) (by rw [h5];omega) (by omega)
 subst hL hC
 unfold Oper.wp
 simp [execOp,hop,hl,hc,hrun,Result.andThen]
 refine hK' _ _ (hK _ ?_ ((Below.refl _ _).alloc (Nat.le_refl _) _) (by simp))
 have hz : (Value.int .u8 0).cells = #[Value.int .u8 0]:=rfl
 have e1 : madeCells (Value.int .u8 0).cells (m * i.size) = (List.replicate m (Value.int .u8 0)).toArray:=by
  apply Array.ext'
  rw [hz,toList_madeCells_one,h4,Nat.mul_one]
 rw [e1]
 exact Has.fresh w e _
theorem mk_size (l : List UInt8) : (⟨l.toArray⟩ : ByteArray).size = l.length:=rfl
theorem own_at {w : World} {b n cp k : Nat} {e : TypeId} {ad : Option Addr} {xs : List Value} (h : w.ownsRow b e 1 (.slice ad n cp) n xs) (hk : k < n) : ∃ g,ad = some ⟨g,0,none⟩ ∧ n ≤ cp ∧ ∀ j u,xs[j]? = some u → w.cell? ⟨g,j,none⟩ = some u:=by
 rcases h.2 with ⟨_,h0⟩ | ⟨g',cap,cur,hv,_,_,hc,_⟩
 · omega
 · injection hv with h1 h2 h3
   subst h1 h3
   exact ⟨g',rfl,hc,fun j u hu=>own_cells h j u hu⟩
theorem cat_list (a b : ByteArray) : (a ++ b).data.toList = a.data.toList ++ b.data.toList:=by simp
end Go.Proofs.YtekafhogiambaaaGreatDoor
namespace Go.Proofs.YtekafhogiambaaaGreatDoor
open Go.RowKit
theorem isBlank_any (c : UInt8) (w : World) : Calls Tryz.prog 88 #[.int .u8 (c.toNat : Int)] w fun e w' => e = .returned (.bool (Tk.blank c)) ∧ w' = w:=by
 have h8:=c.toNat_lt
 have HB : Hid (Tk.blank c = (((c.toNat : Int) == 32) || ((c.toNat : Int) == 9) || ((c.toNat : Int) == 13))):=by
  unfold Hid Tk.blank
  congr 1
  · congr 1 <;> (rw [Bool.eq_iff_iff];simp;omega)
  · rw [Bool.eq_iff_iff];simp;omega
 rw [HB.out]
 by_cases h1 : ((c.toNat : Int) == 32) = true
 · rw [h1]
   go_enter Tryz.func88,Tryz.ntmps88
   go_wp2
   go_ret
   exact ⟨rfl,rfl⟩
 · simp only [Bool.not_eq_true] at h1
   by_cases h2 : ((c.toNat : Int) == 9) = true
   · rw [h1,h2]
     go_enter Tryz.func88,Tryz.ntmps88
     go_wp2
     go_ret
     exact ⟨rfl,rfl⟩
   · simp only [Bool.not_eq_true] at h2
     rw [h1,h2]
     go_enter Tryz.func88,Tryz.ntmps88
     go_wp2
     go_ret
     exact ⟨rfl,rfl⟩
theorem endsBare_any (c : UInt8) (w : World) : Calls Tryz.prog 65 #[.int .u8 (c.toNat : Int)] w fun e w' => e = .returned (.bool (Tk.ends c)) ∧ w' = w:=by
 have h8:=c.toNat_lt
 have key : ∀ n : Nat,c.toNat = n → n = 10 ∨ n = 59 ∨ n = 40 ∨ n = 41 ∨ n = 34 → Calls Tryz.prog 65 #[.int .u8 (n : Int)] w fun e w' => e = .returned (.bool true) ∧ w' = w:=by
  intro n _ h
  rcases h with rfl | rfl | rfl | rfl | rfl <;>
  · go_enter Tryz.func65,Tryz.ntmps65
    go_wp2
    go_ret
    exact ⟨rfl,rfl⟩
 by_cases h : c.toNat = 10 ∨ c.toNat = 59 ∨ c.toNat = 40 ∨ c.toNat = 41 ∨ c.toNat = 34
 · have : Tk.ends c = true:=by
    unfold Tk.ends
    rcases h with h | h | h | h | h <;> simp [h]
   rw [this]
   exact key _ rfl h
 · have e : Tk.ends c = Tk.blank c:=by
    unfold Tk.ends
    have h1 : (c.toNat == 10) = false:=beq_eq_false_iff_ne.2 (by omega)
    have h2 : (c.toNat == 59) = false:=beq_eq_false_iff_ne.2 (by omega)
    have h3 : (c.toNat == 40) = false:=beq_eq_false_iff_ne.2 (by omega)
    have h4 : (c.toNat == 41) = false:=beq_eq_false_iff_ne.2 (by omega)
    have h5 : (c.toNat == 34) = false:=beq_eq_false_iff_ne.2 (by omega)
    rw [h1,h2,h3,h4,h5]
    rfl
   rw [e]
   have h1 : ((c.toNat : Int) == 10) = false:=beq_eq_false_iff_ne.2 (by omega)
   have h2 : ((c.toNat : Int) == 59) = false:=beq_eq_false_iff_ne.2 (by omega)
   have h3 : ((c.toNat : Int) == 40) = false:=beq_eq_false_iff_ne.2 (by omega)
   have h4 : ((c.toNat : Int) == 41) = false:=beq_eq_false_iff_ne.2 (by omega)
   have h5 : ((c.toNat : Int) == 34) = false:=beq_eq_false_iff_ne.2 (by omega)
   clear e h
   go_enter Tryz.func65,Tryz.ntmps65
   go_wp2_with (go_at_call 88;refine (isBlank_any c _).mono ?_;rintro e w1 ⟨rfl,rfl⟩)
   go_ret
   exact ⟨rfl,rfl⟩
def lxc (s : ByteArray) (at_ line lineAt dep fl fc : Nat) (bl : Bool) (el : Nat) (vw ve : Value) : Array Value :=
 #[.string s,.int .i64 at_,.int .i64 line,.int .i64 lineAt,.int .i64 dep,.int .i64 fl,.int .i64 fc,.bool bl,.int .i64 el,vw,ve]
def nb (s : ByteArray) (at_ : Nat) : UInt8:=s.data.toList.getD at_ 10
theorem atEnd_any (s : ByteArray) (at_ line lineAt dep fl fc : Nat) (bl : Bool) (el : Nat) (vw ve : Value) (g : Nat) (w : World) (h : Has w g 91 (lxc s at_ line lineAt dep fl fc bl el vw ve)) :
 Calls Tryz.prog 63 #[.pointer (some ⟨g,0,none⟩)] w fun e w' => e = .returned (.bool ((at_ : Int) == (s.size : Int))) ∧ ∃ n,w' = w.drewN n:=by
 have H0 : w.cell? ⟨g,0,none⟩ = some (.string s):=h.cell 0
 have H1 : w.cell? ⟨g,1,none⟩ = some (.int .i64 at_):=h.cell 1
 clear h
 go_enter Tryz.func63,Tryz.ntmps63
 go_wp2
 go_quiet (fail)
 go_wp2
 go_ret
 exact ⟨rfl,_,rfl⟩
theorem next_any (s : ByteArray) (at_ line lineAt dep fl fc : Nat) (bl : Bool) (el : Nat) (vw ve : Value) (g : Nat) (w : World) (h : Has w g 91 (lxc s at_ line lineAt dep fl fc bl el vw ve)) (hat : at_ ≤ s.size) :
 Calls Tryz.prog 62 #[.pointer (some ⟨g,0,none⟩)] w fun e w' => e = .returned (.int .u8 ((nb s at_).toNat : Int)) ∧ ∃ n,w' = w.drewN n:=by
 have HE:=Lib.hid (fun W (hW : Has W g 91 (lxc s at_ line lineAt dep fl fc bl el vw ve))=>atEnd_any s at_ line lineAt dep fl fc bl el vw ve g W hW)
 have H:=Lib.hid h
 clear h
 by_cases he : at_ = s.size
 · have hq : ((at_ : Int) == (s.size : Int)) = true:=beq_iff_eq.2 (by omega)
   rw [hq] at HE
   have HN : Hid ((nb s at_).toNat = 10):=by
    unfold Hid nb
    rw [List.getD_eq_getElem?_getD,List.getElem?_eq_none (by simp [he])]
    rfl
   rw [HN.out]
   clear hat hq he
   go_enter Tryz.func62,Tryz.ntmps62
   go_wp2_with (go_at_call 63;refine (HE.out _ H.out).mono ?_;rintro e w1 ⟨rfl,n,rfl⟩)
   go_ret
   exact ⟨rfl,_,rfl⟩
 · have hq : ((at_ : Int) == (s.size : Int)) = false:=beq_eq_false_iff_ne.2 (by omega)
   rw [hq] at HE
   have hlt : at_ < s.size:=by omega
   have HN : Hid (nb s at_ = s[at_]):=by
    unfold Hid nb
    rw [List.getD_eq_getElem?_getD,List.getElem?_eq_getElem (by simpa using hlt)]
    rfl
   rw [HN.out]
   clear hat hq he
   have H0 : Hid (∀ n,(w.drewN n).cell? ⟨g,0,none⟩ = some (.string s)):=fun n=>H.out.cell 0
   have H1 : Hid (∀ n,(w.drewN n).cell? ⟨g,1,none⟩ = some (.int .i64 at_)):=fun n=>H.out.cell 1
   go_enter Tryz.func62,Tryz.ntmps62
   go_wp2_with (go_at_call 63;refine (HE.out _ H.out).mono ?_;rintro e w1 ⟨rfl,n,rfl⟩;have H0':=H0.out n;have H1':=H1.out n;generalize hW : w.drewN n = W at *;have HW:=Lib.hid hW;clear hW)
   go_quiet (fail)
   go_wp2
   go_ret
   exact ⟨rfl,n + _,by rw [← HW.out,World.drewN_drewN]⟩
end Go.Proofs.YtekafhogiambaaaGreatDoor
namespace Go.Proofs.YtekafhogiambaaaGreatDoor
open Go.RowKit
def Srow {α : Type} (enc : α → List Value) (k : Nat) (w : World) (lo hi : Nat) (A : Option Addr) (xs : List α) : Prop :=
 0 < xs.length → ∃ g o,A = some ⟨g,o,none⟩ ∧ lo ≤ g ∧ g < hi ∧ ∀ j (h : j < xs.length),w.rangeAt g (o + j * k) (enc xs[j])
theorem range_below {B : Nat} {w w' : World} (hb : Below B w w') {g o : Nat} (hg : g < B) {vs : List Value} (h : w.rangeAt g o vs) : w'.rangeAt g o vs:=fun j v hj=>by
 have:=h j v hj
 first
  | exact (hb.cell (p:=⟨g,o + j,none⟩) hg).trans this
  | (rw [← this];exact hb.cell (p:=⟨g,o + j,none⟩) hg)
section
variable {α : Type} {enc : α → List Value} {k : Nat} {w w' : World} {lo hi lo' hi' : Nat} {A : Option Addr} {xs : List α}
theorem Srow.nil : Srow enc k w lo hi A []:=fun h=>absurd h (by simp)
theorem Srow.keep (h : Srow enc k w lo hi A xs) (hb : Below hi w w') : Srow enc k w' lo hi A xs:=fun h0=>by
 obtain ⟨g,o,rfl,hlo,hhi,hc⟩:=h h0
 exact ⟨g,o,rfl,hlo,hhi,fun j hj=>range_below hb hhi (hc j hj)⟩
theorem Srow.more (h : Srow enc k w lo hi A xs) (h1 : lo' ≤ lo) (h2 : hi ≤ hi') : Srow enc k w lo' hi' A xs:=fun h0=>by
 obtain ⟨g,o,rfl,hlo,hhi,hc⟩:=h h0
 exact ⟨g,o,rfl,by omega,by omega,hc⟩
theorem Srow.at_ (h : Srow enc k w lo hi A xs) {j : Nat} (hj : j < xs.length) : ∃ g o,A = some ⟨g,o,none⟩ ∧ lo ≤ g ∧ g < hi ∧ w.rangeAt g (o + j * k) (enc xs[j]):=by
 obtain ⟨g,o,rfl,hlo,hhi,hc⟩:=h (by omega)
 exact ⟨g,o,rfl,hlo,hhi,hc j hj⟩
end
theorem Has.farCells {w : World} {g : Nat} {t : TypeId} {cs : Array Value} (h : Has w g t cs) {g' : Nat} (hp : g ≠ g') : ∀ (vs : List Value) (o : Nat),Has (w.setCells g' o vs) g t cs
 | [],_=>h
 | v :: r,o=>by
  rw [World.setCells]
  exact Has.farCells (w:=w.setCell ⟨g',o,none⟩ v) (h.far (p:=⟨g',o,none⟩) hp v) hp r (o + 1)
end Go.Proofs.YtekafhogiambaaaGreatDoor
namespace Go.Proofs.YtekafhogiambaaaGreatDoor
open Go.RowKit
def fl {α : Type} (enc : α → List Value) (xs : List α) : List Value:=xs.flatMap enc
section
variable {α : Type} {enc : α → List Value} {k : Nat}
theorem fl_append (xs ys : List α) : fl enc (xs ++ ys) = fl enc xs ++ fl enc ys:=by simp [fl]
theorem fl_one (x : α) : fl enc [x] = enc x:=by simp [fl]
theorem fl_get (hk : ∀ x,(enc x).length = k) : ∀ (xs : List α) {j i : Nat} (hj : j < xs.length),i < k → (fl enc xs)[j * k + i]? = (enc xs[j])[i]?
 | x :: r,0,i,_,hi=>by
  simp only [fl,List.flatMap_cons,Nat.zero_mul,Nat.zero_add,List.getElem_cons_zero]
  rw [List.getElem?_append_left (by rw [hk];exact hi)]
 | x :: r,j + 1,i,hj,hi=>by
  have:=fl_get hk r (j:=j) (i:=i) (by simpa using hj) hi
  simp only [fl,List.flatMap_cons,List.getElem_cons_succ] at *
  rw [List.getElem?_append_right (by rw [hk,Nat.add_mul,Nat.one_mul];omega),hk,← this]
  congr 1
  rw [Nat.add_mul,Nat.one_mul]
  omega
end
abbrev Own {α : Type} (enc : α → List Value) (k : Nat) (w : World) (base : Nat) (e : TypeId) (v : Value) (xs : List α) : Prop:=w.ownsRow base e k v xs.length (fl enc xs)
section
variable {α : Type} {enc : α → List Value} {k : Nat} {w w' : World} {base B : Nat} {e : TypeId} {v : Value} {xs : List α}
theorem ownK_form {n : Nat} {ys : List Value} (h : w.ownsRow base e k v n ys) : ∃ ad cp,v = .slice ad n cp ∧ n ≤ cp:=by
 rcases h.2 with ⟨rfl,h0⟩ | ⟨g',cap,cur,rfl,_,_,hc,_⟩
 · exact ⟨none,0,by rw [h0],by omega⟩
 · exact ⟨_,_,rfl,hc⟩
theorem ownK_pos {n : Nat} {ys : List Value} (h : w.ownsRow base e k v n ys) (hn : 0 < n) : ∃ g cp cur,v = .slice (some ⟨g,0,none⟩) n cp ∧ n ≤ cp ∧ base ≤ g ∧ g < w.heap.size ∧ w.heap[g]? = some (.cells cur e (0,0)) ∧ cur.toList.take (n * k) = ys:=by
 rcases h.2 with ⟨rfl,h0⟩ | ⟨g',cap,cur,rfl,hb,hg,hc,_,_,ht⟩
 · omega
 · exact ⟨g',cap,cur,rfl,hc,hb,(Array.getElem?_eq_some_iff.1 hg).1,hg,ht⟩
theorem ownK_below {n : Nat} {ys : List Value} (h : w.ownsRow base e k v n ys) (hb : Below B w w') (hB : w.heap.size ≤ B) : w'.ownsRow base e k v n ys:=own_below h hb hB
theorem take_at {cur : Array Value} {n : Nat} {ys : List Value} (ht : cur.toList.take n = ys) {i : Nat} {u : Value} (hu : ys[i]? = some u) : cur[i]? = some u:=by
 subst ht
 rw [List.getElem?_take] at hu
 split at hu
 · rwa [Array.getElem?_toList] at hu
 · cases hu
theorem Own.srow (hk : ∀ x,(enc x).length = k) (h : Own enc k w base e v xs) : ∃ A c,v = .slice A xs.length c ∧ xs.length ≤ c ∧ Srow enc k w base w.heap.size A xs:=by
 rcases Nat.eq_zero_or_pos xs.length with h0 | h0
 · obtain ⟨ad,cp,hv,hc⟩:=ownK_form h
   exact ⟨ad,cp,hv,hc,fun h1=>by omega⟩
 · obtain ⟨g,cp,cur,hv,hc,hb,hlt,hg,ht⟩:=ownK_pos h h0
   refine ⟨_,cp,hv,hc,fun _=>⟨g,0,rfl,hb,hlt,fun j hj i u hu=>?_⟩⟩
   have hi : i < k:=by rw [← hk xs[j]];exact (List.getElem?_eq_some_iff.1 hu).1
   rw [cell_of_row w g _ cur e (0,0) hg,Nat.zero_add]
   exact take_at ht (by rw [fl_get hk xs hj hi,hu])
end
def Apart2 (a b : Value) : Prop := ∀ g,a.ownBlock = some g → b.ownBlock ≠ some g
section
variable {P : Program} {w : World}
theorem run_append_where (base : Nat) (t ty e : TypeId) (i : TypeInfo) (z : Value) (size bytes : Nat) (ht : P.underlying t = some (.slice e)) (hi : P.info? e = some i) (hz : i.zero = some z)
 (hsize : i.size = size) (hby : i.bytes = bytes) (hzs : z.cells.size = size) (hsz : 0 < size)
 (v : Value) (n : Nat) (xs : List Value) (hown : w.ownsRow base e size v n xs)
 (a : Addr) (m c : Nat) (news : List Value) (hl : news.length = m * size) (hnews : ∀ j u,news[j]? = some u → w.cell? (a.add j) = some u) (h1 : ∀ u ∈ news,u.oneCell' = true) (hm : 0 < m)
 (h63 : n + m ≤ maxLen) (hbytes : (n + m) * bytes ≤ 140737488355328) (hbase : base ≤ w.heap.size) :
 ∃ v' w',(Builtin.append_ #[t,t] ty #[v,.slice (some a) m c]).run P w = .ok v' w' ∧ w'.ownsRow base e size v' (n + m) (xs ++ news) ∧ w.grownBy w' v.ownBlock ∧ (v'.ownBlock = v.ownBlock ∨ v'.ownBlock = some w.heap.size):=by
 obtain ⟨v',w',hr,h2,h3,_⟩:=run_append_own (P:=P) w base t ty e i z size bytes ht hi hz hsize hby hzs hsz v n xs hown a m c news hl hnews h1 h63 hbytes hbase
 refine ⟨v',w',hr,h2,h3,?_⟩
 subst hsize hby
 have hsmall : n + m ≤ 9223372036854775807:=by simp only [maxLen] at h63;omega
 rcases hown.2 with ⟨rfl,rfl⟩ | ⟨g,cap,cur,rfl,hbg,hg,hnc,hcm,hcs,htake⟩
 · have hr2:=run_append_nil (P:=P) w t ty e i z ht hi hz a m c news hl hnews (by omega) (by omega) (by have hb:=hbytes;simp only [Nat.zero_add] at hb;omega)
   rw [hr] at hr2
   injection hr2 with e1 _
   rw [e1]
   exact .inr rfl
 · by_cases hroom : n + m ≤ cap
   · have hfit : n * i.size + news.length ≤ cur.size:=by rw [hl,hcs,← Nat.add_mul];exact Nat.mul_le_mul_right _ hroom
     have hr2:=run_append_room (P:=P) w t ty e i ht hi g n cap cur hg a m c news hl hnews h1 hroom hfit
     rw [hr] at hr2
     injection hr2 with e1 _
     rw [e1]
     exact .inl rfl
   · have holds : ∀ j u,xs[j]? = some u → w.cell? ((⟨g,0,none⟩ : Addr).add j) = some u:=hown.cells (g:=g) rfl
     have hr2:=run_append_grow (P:=P) w t ty e i z ht hi hz ⟨g,0,none⟩ n cap xs hown.1 holds a m c news hl hnews (by omega) (by omega) (growslice_fits (by omega) hbytes)
     rw [hr] at hr2
     injection hr2 with e1 _
     rw [e1]
     exact .inr rfl
end
end Go.Proofs.YtekafhogiambaaaGreatDoor
namespace Go.Proofs.YtekafhogiambaaaGreatDoor
open Go.RowKit
theorem grown_trans {w w' w2 : World} {row : Option Nat} (h : w.grownBy w' row) (h2 : w'.grownBy w2 row) : w.grownBy w2 row :=
 ⟨h2.os.trans h.os,h2.tape.trans h.tape,h2.output.trans h.output,Nat.le_trans h.size h2.size,fun k hk hne=>(h2.block k (Nat.lt_of_lt_of_le hk h.size) hne).trans (h.block k hk hne)⟩
theorem grown_drewN (w : World) (n : Nat) (row : Option Nat) : w.grownBy (w.drewN n) row:=⟨rfl,rfl,rfl,Nat.le_refl _,fun _ _ _=>rfl⟩
theorem grown_any {w w' : World} (h : w.grownBy w' none) (row : Option Nat) : w.grownBy w' row:=⟨h.os,h.tape,h.output,h.size,fun k hk _=>h.block k hk (by simp)⟩
structure Kb (g b : Nat) (w w' : World) : Prop where
 os : w'.os = w.os
 tape : w'.tape = w.tape
 output : w'.output = w.output
 size : w.heap.size ≤ w'.heap.size
 block : ∀ k,k < b → k ≠ g → w'.heap[k]? = w.heap[k]?
section
variable {g b : Nat} {w w' w2 : World}
theorem Kb.refl (g b : Nat) (w : World) : Kb g b w w:=⟨rfl,rfl,rfl,Nat.le_refl _,fun _ _ _=>rfl⟩
theorem Kb.trans (h : Kb g b w w') (h2 : Kb g b w' w2) : Kb g b w w2 :=
 ⟨h2.os.trans h.os,h2.tape.trans h.tape,h2.output.trans h.output,Nat.le_trans h.size h2.size,fun k hk hne=>(h2.block k hk hne).trans (h.block k hk hne)⟩
theorem Kb.grown (h : w.grownBy w' (some g)) (hb : b ≤ w.heap.size) : Kb g b w w' :=
 ⟨h.os,h.tape,h.output,h.size,fun k hk hne=>h.block k (by omega) (fun e=>hne (by injection e))⟩
theorem Kb.of_below (h : Below b w w') : Kb g b w w':=⟨h.os,h.tape,h.output,h.size,fun k hk _=>h.block k hk⟩
theorem Kb.set (h : Kb g b w w') (i : Nat) (u : Value) : Kb g b w (w'.setCell ⟨g,i,none⟩ u) :=
 ⟨h.os,h.tape,h.output,by simpa using h.size,fun k hk hne=>(heap_setCell_other _ ⟨g,i,none⟩ k u hne).trans (h.block k hk hne)⟩
theorem Kb.mono (h : Kb g b w w') {b' : Nat} (hb : b' ≤ b) : Kb g b' w w':=⟨h.os,h.tape,h.output,h.size,fun k hk hne=>h.block k (by omega) hne⟩
theorem Kb.setHi (h : Kb g b w w') {p : Addr} (hp : b ≤ p.block) (u : Value) : Kb g b w (w'.setCell p u) :=
 ⟨h.os,h.tape,h.output,by simpa using h.size,fun k hk hne=>(heap_setCell_other _ p k u (by omega)).trans (h.block k hk hne)⟩
theorem Kb.below (h : Kb g b w w') (hg : g ≤ b) : Below g w w':=⟨h.os,h.tape,h.output,h.size,fun k hk=>h.block k (by omega) (by omega)⟩
theorem Kb.below' (h : Kb g b w w') (hg : b ≤ g) : Below b w w':=⟨h.os,h.tape,h.output,h.size,fun k hk=>h.block k hk (by omega)⟩
theorem Kb.has (h : Kb g b w w') {k : Nat} {t : TypeId} {cs : Array Value} (hk : Has w k t cs) (hb : k < b) (hne : k ≠ g) : Has w' k t cs:=(h.block k hb hne).trans hk
end
def wc (x : Tk.Wd) : List Value := [.string ⟨x.text.toArray⟩,.bool x.quoted,.int .i64 x.line,.int .i64 x.col]
theorem wc_len (x : Tk.Wd) : (wc x).length = 4:=rfl
structure Ex where
 bl : Bool
 el : Nat
 v : Value
 ws : List Tk.Wd
def Ex.en (x : Ex) : Tk.En:=⟨x.bl,x.el,x.ws⟩
def ec (x : Ex) : List Value := [.bool x.bl,.int .i64 x.el,x.v]
theorem ec_len (x : Ex) : (ec x).length = 3:=rfl
structure Ers (w : World) (b : Nat) (v : Value) (out : List Ex) : Prop where
 own : w.ownsRow b 74 3 v out.length (fl ec out)
 dat : ∀ x ∈ out,w.ownsRow b 69 4 x.v x.ws.length (fl wc x.ws)
 off : ∀ x ∈ out,Apart2 x.v v
structure Tx (w : World) (b : Nat) (vw ve : Value) (ws : List Tk.Wd) (out : List Ex) : Prop where
 er : Ers w b ve out
 wr : w.ownsRow b 69 4 vw ws.length (fl wc ws)
 off : Apart2 vw ve
 far : ∀ x ∈ out,Apart2 x.v vw
section
variable {w w' : World} {b : Nat} {v v' vw ve : Value} {out : List Ex} {ws : List Tk.Wd}
theorem Ers.nil (w : World) (b : Nat) : Ers w b (.slice none 0 0) []:=⟨⟨rfl,.inl ⟨rfl,rfl⟩⟩,by simp,by simp⟩
theorem row_kept {k : Nat} {e : TypeId} {n : Nat} {ys : List Value} (h : w.ownsRow b e k v n ys) {g : Nat} (hg : g < b) (hw : w.grownBy w' (some g)) : w'.ownsRow b e k v n ys :=
 h.kept hw (by
  cases e2 : v.ownBlock with
  | none=>exact .inl rfl
  | some q=>exact .inr fun e3=>by injection e3 with e3;have:=(h.lt q e2).1;omega)
theorem Ers.far (h : Ers w b v out) {g : Nat} (hg : g < b) (hw : w.grownBy w' (some g)) : Ers w' b v out :=
 ⟨row_kept h.own hg hw,fun x hx=>row_kept (h.dat x hx) hg hw,h.off⟩
theorem Tx.farSet (h : Tx w b vw ve ws out) {g : Nat} (hg : g < b) (hw : w.grownBy w' (some g)) : Tx w' b vw ve ws out :=
 ⟨h.er.far hg hw,row_kept h.wr hg hw,h.off,h.far⟩
theorem Ers.below (h : Ers w b v out) {B : Nat} (hb : Below B w w') (hB : w.heap.size ≤ B) : Ers w' b v out :=
 ⟨ownK_below h.own hb hB,fun x hx=>ownK_below (h.dat x hx) hb hB,h.off⟩
theorem Tx.start (h : Ers w b ve out) : Tx w b (.slice none 0 0) ve [] out :=
 ⟨h,⟨rfl,.inl ⟨rfl,rfl⟩⟩,(fun g e=>by cases e),(fun x _ g _ e=>by cases e)⟩
theorem apart_ne {a c : Value} (h : Apart2 a c) : a.ownBlock = none ∨ a.ownBlock ≠ c.ownBlock:=by
 cases e : a.ownBlock with
 | none=>exact .inl rfl
 | some q=>exact .inr fun e2=>h q e e2.symm
theorem apart_ne' {a c : Value} (h : Apart2 a c) : c.ownBlock = none ∨ c.ownBlock ≠ a.ownBlock:=by
 cases e : c.ownBlock with
 | none=>exact .inl rfl
 | some q=>exact .inr fun e2=>h q e2.symm e
theorem Tx.put (h : Tx w b vw ve ws out) {x : Tk.Wd} (ho : w'.ownsRow b 69 4 v' (ws.length + 1) (fl wc (ws ++ [x]))) (g : w.grownBy w' vw.ownBlock) (hv : v'.ownBlock = vw.ownBlock ∨ v'.ownBlock = some w.heap.size) : Tx w' b v' ve (ws ++ [x]) out:=by
 refine ⟨⟨h.er.own.kept g (apart_ne' h.off),fun y hy=>(h.er.dat y hy).kept g (apart_ne (h.far y hy)),h.er.off⟩,by rw [List.length_append,List.length_singleton];exact ho,fun q e e2=>?_,fun y hy q e e2=>?_⟩
 · rcases hv with hv | hv
   · exact h.off q (hv.symm.trans e) e2
   · rw [hv] at e
     injection e with e
     have:=(h.er.own.lt q e2).2
     omega
 · rcases hv with hv | hv
   · exact h.far y hy q e (hv.symm.trans e2)
   · rw [hv] at e2
     injection e2 with e2
     have:=((h.er.dat y hy).lt q e).2
     omega
theorem Tx.close (h : Tx w b vw ve ws out) {bl : Bool} {el : Nat} (ho : w'.ownsRow b 74 3 v' (out.length + 1) (fl ec (out ++ [⟨bl,el,vw,ws⟩]))) (g : w.grownBy w' ve.ownBlock) (hv : v'.ownBlock = ve.ownBlock ∨ v'.ownBlock = some w.heap.size) :
 Ers w' b v' (out ++ [⟨bl,el,vw,ws⟩]):=by
 refine ⟨by rw [List.length_append,List.length_singleton];exact ho,fun y hy=>?_,fun y hy q e e2=>?_⟩
 · rcases List.mem_append.1 hy with hy | hy
   · exact (h.er.dat y hy).kept g (apart_ne (h.er.off y hy))
   · rw [List.mem_singleton.1 hy]
     exact h.wr.kept g (apart_ne h.off)
 · have hlt : q < w.heap.size:=by
    rcases List.mem_append.1 hy with hy | hy
    · exact ((h.er.dat y hy).lt q e).2
    · rw [List.mem_singleton.1 hy] at e
      exact (h.wr.lt q e).2
   rcases hv with hv | hv
   · rcases List.mem_append.1 hy with hy | hy
     · exact h.er.off y hy q e (hv.symm.trans e2)
     · rw [List.mem_singleton.1 hy] at e
       exact h.off q e (hv.symm.trans e2)
   · rw [hv] at e2
     injection e2 with e2
     omega
end
theorem beginLine_any (s : ByteArray) (at_ line lineAt dep fl_ fc : Nat) (bl : Bool) (el : Nat) (vw ve : Value) (g : Nat) (w : World) (h : Has w g 91 (lxc s at_ line lineAt dep fl_ fc bl el vw ve)) (hl : line ≤ 1048576) :
 Calls Tryz.prog 60 #[.pointer (some ⟨g,0,none⟩)] w fun e w' => e = .returned (.tuple #[]) ∧ Has w' g 91 (lxc s at_ (line + 1) at_ dep fl_ fc bl el vw ve) ∧ w.grownBy w' (some g):=by
 have H1 : w.cell? ⟨g,1,none⟩ = some (.int .i64 at_):=h.cell 1
 have H2 : w.cell? ⟨g,2,none⟩ = some (.int .i64 line):=h.cell 2
 have H3 : w.cell? ⟨g,3,none⟩ = some (.int .i64 lineAt):=h.cell 3
 have F2 : w.frozen? ⟨g,2,none⟩ = false:=h.free 2
 have F3 : w.frozen? ⟨g,3,none⟩ = false:=h.free 3
 have H:=Lib.hid h
 clear h
 go_enter Tryz.func60,Tryz.ntmps60
 go_wp2
 go_end0
 refine ⟨rfl,?_,?_⟩
 · have h2:=(H.out.set 2 (.int .i64 ((line : Int) + 1))).set 3 (.int .i64 at_)
   exact h2
 · exact grown_set (grown_set (World.grownBy.refl w _) 2 _) 3 _
theorem spot_any (s : ByteArray) (at_ line lineAt dep fl_ fc : Nat) (bl : Bool) (el : Nat) (vw ve : Value) (g : Nat) (w : World) (h : Has w g 91 (lxc s at_ line lineAt dep fl_ fc bl el vw ve)) (p : Nat) (hp : p ≤ 1048576) (hl : lineAt ≤ 1048576) :
 Calls Tryz.prog 64 #[.pointer (some ⟨g,0,none⟩),.int .i64 p] w fun e w' => e = .returned (.agg #[.int .i64 line,.int .i64 (1 + (p : Int) - lineAt)]) ∧ w.grownBy w' none:=by
 have h2:=h.alloc (.cells #[.int .i64 0,.int .i64 0] 31)
 have H2 : (w.alloc (.cells #[.int .i64 0,.int .i64 0] 31)).cell? ⟨g,2,none⟩ = some (.int .i64 line):=h2.cell 2
 have H3 : (w.alloc (.cells #[.int .i64 0,.int .i64 0] 31)).cell? ⟨g,3,none⟩ = some (.int .i64 lineAt):=h2.cell 3
 clear h2 h
 have hi2 : (Tryz.prog.info? 31).map (·.size) = some 2:=by kernel_rfl
 have HI:=Lib.hid hi2
 clear hi2
 go_enter Tryz.func64,Tryz.ntmps64
 go_wp2
 go_region
 all_goals
  go_wp2
  refine bodyPost_ret (results_cell_row rfl _ _ w.heap.size 31 #[.int .i64 line,.int .i64 (1 + (p : Int) - lineAt)] (0,0) _ rfl (Has.fresh w _ _) Tryz.underlying31 rfl HI.out) rfl ?_
  exact ⟨rfl,grown_trans (World.grownBy_alloc w _ none) (grown_drewN _ 1 none)⟩
def tk1 (s : ByteArray) (at_ : Nat) : Nat:=if (nb s at_).toNat = 92 ∧ (nb s (at_ + 1)).toNat ≠ 10 then 2 else 1
theorem next_has (s : ByteArray) (at_ line lineAt dep fl_ fc : Nat) (bl : Bool) (el : Nat) (vw ve : Value) (g : Nat) (w : World) (h : Has w g 91 (lxc s at_ line lineAt dep fl_ fc bl el vw ve)) (hat : at_ ≤ s.size) :
 Calls Tryz.prog 62 #[.pointer (some ⟨g,0,none⟩)] w fun e w' => e = .returned (.int .u8 ((nb s at_).toNat : Int)) ∧ Has w' g 91 (lxc s at_ line lineAt dep fl_ fc bl el vw ve) ∧ w.grownBy w' (some g) :=
 (next_any s at_ line lineAt dep fl_ fc bl el vw ve g w h hat).mono fun _ _ ⟨he,n,hw⟩=>⟨he,by rw [hw];exact h,by rw [hw];exact grown_drewN w n _⟩
theorem take_any (s : ByteArray) (at_ line lineAt dep fl_ fc : Nat) (bl : Bool) (el : Nat) (vw ve : Value) (g : Nat) (w : World) (h : Has w g 91 (lxc s at_ line lineAt dep fl_ fc bl el vw ve)) (hat : at_ < s.size) (hs : s.size ≤ 1048576) :
 Calls Tryz.prog 68 #[.pointer (some ⟨g,0,none⟩)] w fun e w' => e = .returned (.tuple #[]) ∧ Has w' g 91 (lxc s (at_ + tk1 s at_) line lineAt dep fl_ fc bl el vw ve) ∧ w.grownBy w' (some g):=by
 have HN:=Lib.hid (fun (a : Nat) (ha : a ≤ s.size) (W : World) (hW : Has W g 91 (lxc s a line lineAt dep fl_ fc bl el vw ve))=>next_has s a line lineAt dep fl_ fc bl el vw ve g W hW ha)
 have H:=Lib.hid h
 clear h
 have HL:=Lib.hid (show at_ ≤ s.size by omega)
 have HL1:=Lib.hid (show at_ + 1 ≤ s.size by omega)
 have hb : at_ ≤ 1048576:=by omega
 clear hat hs
 have HN1:=Lib.hid (HN.out at_ HL.out w H.out)
 have HN2:=Lib.hid (HN.out (at_ + 1) HL1.out)
 clear HN
 have HW1 : Hid (∀ W : World,Has W g 91 (lxc s at_ line lineAt dep fl_ fc bl el vw ve) → Has (W.setCell ⟨g,1,none⟩ (.int .i64 ((at_ : Int) + 1))) g 91 (lxc s (at_ + 1) line lineAt dep fl_ fc bl el vw ve)):=fun W hW=>hW.set 1 _
 have HW2 : Hid (∀ W : World,Has W g 91 (lxc s (at_ + 1) line lineAt dep fl_ fc bl el vw ve) → Has (W.setCell ⟨g,1,none⟩ (.int .i64 (((at_ + 1 : Nat) : Int) + 1))) g 91 (lxc s (at_ + 2) line lineAt dep fl_ fc bl el vw ve)):=fun W hW=>hW.set 1 _
 by_cases h92 : (nb s at_).toNat = 92
 · have HQ : Hid (((nb s at_).toNat : Int) = 92):=by rw [Hid,h92];rfl
   rw [HQ.out] at HN1
   by_cases h10 : (nb s (at_ + 1)).toNat = 10
   · have hk : tk1 s at_ = 1:=by rw [tk1,if_neg (fun e=>e.2 h10)]
     rw [hk]
     clear hk
     have HQ2 : Hid (((nb s (at_ + 1)).toNat : Int) = 10):=by rw [Hid,h10];rfl
     rw [HQ2.out] at HN2
     clear h92 h10 HQ HQ2 HW2
     go_enter Tryz.func68,Tryz.ntmps68
     go_wp2_with (go_at_call 62;first
      | (refine HN1.out.mono ?_;rintro e w1 ⟨rfl,h1,g1⟩;have c1 : w1.cell? ⟨g,1,none⟩ = some (.int .i64 at_):=h1.cell 1;have f1:=h1.free 1;have HA:=Lib.hid h1;have HG:=Lib.hid g1;clear h1 g1 H)
      | (refine (HN2.out _ (HW1.out _ HA.out)).mono ?_;rintro e w2 ⟨rfl,h2,g2⟩;have HA2:=Lib.hid h2;have HG2:=Lib.hid (grown_trans (grown_set HG.out 1 _) g2);clear h2 g2 c1 f1))
     go_end0
     exact ⟨rfl,HA2.out,HG2.out⟩
   · have hk : tk1 s at_ = 2:=by rw [tk1,if_pos ⟨h92,h10⟩]
     rw [hk]
     clear hk
     have hq : (((nb s (at_ + 1)).toNat : Int) != 10) = true:=by simp;omega
     generalize ((nb s (at_ + 1)).toNat : Int) = q at *
     clear h92 h10 HQ
     go_enter Tryz.func68,Tryz.ntmps68
     go_wp2_with (go_at_call 62;first
      | (refine HN1.out.mono ?_;rintro e w1 ⟨rfl,h1,g1⟩;have c1 : w1.cell? ⟨g,1,none⟩ = some (.int .i64 at_):=h1.cell 1;have f1:=h1.free 1;have HA:=Lib.hid h1;have HG:=Lib.hid g1;clear h1 g1 H)
      | (refine (HN2.out _ (HW1.out _ HA.out)).mono ?_;rintro e w2 ⟨rfl,h2,g2⟩;have c2 : w2.cell? ⟨g,1,none⟩ = some (.int .i64 ((at_ : Int) + 1)):=h2.cell 1;have f2:=h2.free 1;have HA2:=Lib.hid h2;have HG2:=Lib.hid (grown_trans (grown_set HG.out 1 _) g2);clear h2 g2 c1 f1))
     go_end0
     exact ⟨rfl,HW2.out _ HA2.out,grown_set HG2.out 1 _⟩
 · have hk : tk1 s at_ = 1:=by rw [tk1,if_neg (fun e=>h92 e.1)]
   rw [hk]
   clear hk HN2 HW2
   have hq : (((nb s at_).toNat : Int) == 92) = false:=beq_eq_false_iff_ne.2 (by omega)
   generalize ((nb s at_).toNat : Int) = q at *
   clear h92
   go_enter Tryz.func68,Tryz.ntmps68
   go_wp2_with (go_at_call 62;refine HN1.out.mono ?_;rintro e w1 ⟨rfl,h1,g1⟩;have c1 : w1.cell? ⟨g,1,none⟩ = some (.int .i64 at_):=h1.cell 1;have f1:=h1.free 1;have HA:=Lib.hid h1;have HG:=Lib.hid g1;clear h1 g1 H)
   go_end0
   exact ⟨rfl,HW1.out _ HA.out,grown_set HG.out 1 _⟩
end Go.Proofs.YtekafhogiambaaaGreatDoor
