/- Texts of the proofs, merged. -/
import Derived.Test.YtekafhogiambaaaGreatDoorZc45
import Derived.Test.YtekafhogiambaaaGreatDoorZc46
import Derived.Test.YtekafhogiambaaaGreatDoorZc12
import Derived.Test.YtekafhogiambaaaGreatDoorZc10
import Derived.OpenShut
import Derived.Lib.LaidTab
import Derived.Stop.LaidErr
import Derived.Test.YtekafhogiambaaaGreatDoorZc4
import Derived.Test.YtekafhogiambaaaGreatDoorZc9
import Derived.Test.YtekafhogiambaaaGreatDoorZc36
import Derived.Test.YtekafhogiambaaaGreatDoorCards
import Derived.Test.YtekafhogiambaaaGreatDoorTie
import Derived.LaidMore
import Derived.LaidSub
set_option maxRecDepth 100000
namespace Go.Proofs.YtekafhogiambaaaGreatDoor
open Go.RowKit
theorem walk_MasterBackG {w : World} (hLA : LayA w) (hG : Ga w w.heap.size) (o : ByteArray) (ho : o.size ≤ 140737488355328) (A : Option Addr) (rs : List Rv) (c : Nat) (hS : Srow rcl 12 w 0 w.heap.size A rs) (hf : ∀ r ∈ rs,r.fits) (ot : ByteArray) (hot : ot.size ≤ 140737488355328) (ttl : Nat) (text : ByteArray) :
 Calls Tryz.prog 3 #[.string o,.slice A rs.length c,.string ot,.int .u32 ttl,.string text] w fun e w' => e = .returned (.bool true) ∧ Below w.heap.size w w':=by
 cases hn : Rd.nm ot.data.toList with
 | false=>exact walk_backB hLA hG o ho A rs c hS hf ot hot ttl text (.inl hn)
 | true =>
  by_cases ht : ttl ≤ 2147483647
  · exact walk_backA hLA hG o ho A rs c hS hf ot hot ttl text ⟨hn,ht⟩
  · exact walk_backB hLA hG o ho A rs c hS hf ot hot ttl text (.inr ⟨hn,by omega⟩)
end Go.Proofs.YtekafhogiambaaaGreatDoor
namespace Go.Proofs.YtekafhogiambaaaGreatDoor
open Go.RowKit
theorem ga_lay {w : World} (h : LayA w) (h2 : Lay w) (hm : ∃ m : Int,w.cell? ⟨2,0,none⟩ = some (.int .i64 m)) : Ga w w.heap.size:=by
 obtain ⟨m,hm⟩:=hm
 obtain ⟨h1,⟨t,h3⟩,⟨u,h4⟩⟩:=h
 exact ⟨⟨h2,h1,⟨m,hm⟩,h2.size,h1.lt,block_lt_of_cell hm⟩,⟨t,h3⟩,⟨u,h4⟩,h3.lt,h4.lt⟩
end Go.Proofs.YtekafhogiambaaaGreatDoor
namespace Go.Proofs.YtekafhogiambaaaGreatDoor
open Go.RowKit Go.ChangeShapes
theorem laid_head {n : String} {d : DataW Unit} {r : List (String × DataW Unit)} {W : World} {g : Nat} {ty : TypeId} (h : laidMet Tryz.prog ((n,d) :: r) W) (hg : Tryz.prog.globalNamed n = some g) (ht : (Tryz.prog.globals[g]?).map (·.type) = some ty) :
 ∃ (cs : Array Value) (fuel : Nat) (p : List MemPlace),DataW.trod (fun _=>()) Tryz.prog W 0 (fun _=>true) false fuel ty cs.toList = some (d,p) ∧ (0 < cs.size → ∃ t,Has W g t cs):=by
 obtain ⟨ps,⟨g0,t0,cs0,f0,p0,q0,hg0,ht0,hv0,hd0,_,e0⟩,_,hrows⟩:=h
 obtain rfl:=Option.some.inj (hg.symm.trans hg0)
 obtain rfl:=Option.some.inj (ht.symm.trans ht0)
 subst e0
 refine ⟨cs0,f0,p0,hd0,fun h0=>?_⟩
 have hm : MemPlace.cell g 0 ∈ MemPlace.row ⟨g,0,none⟩ cs0.size ++ p0 ++ q0:=by
  refine List.mem_append_left _ (List.mem_append_left _ ?_)
  simp [MemPlace.row]
  exact h0
 obtain ⟨⟨c,t,hh⟩,_⟩:=hrows g 0 hm
 unfold World.var? at hv0
 rw [hg] at hv0
 simp only [Option.bind_some,hh] at hv0
 injection hv0 with hv0
 subst hv0
 exact ⟨t,hh⟩
theorem laid_pow {r : List (String × DataW Unit)} {W : World} (h : laidMet Tryz.prog (("internal/strconv.uint64pow10",Rows.laid_internal_strconv_uint64pow10) :: r) W) : LayP W:=by
 obtain ⟨cs,fuel,p,hd,hh⟩:=laid_head (g:=1) (ty:=163) h (by kernel_rfl) (by kernel_rfl)
 have e:=Lib.cells_of_tab (k:=.u64) (zs:=Lib.pow10Tab) (e:=87) (n:=20) Tryz.underlying163 Tryz.underlying87 (by kernel_rfl) (by kernel_rfl) hd
 have e2 : cs = (Lib.pow10Tab.map fun z=>Value.int .u64 z).toArray:=by rw [← e]
 subst e2
 exact hh (by decide)
def tab64 : List Int := [0,1,56,2,57,49,28,3,61,58,42,50,38,29,17,4,62,47,59,36,45,43,51,22,53,39,33,30,24,18,12,5,63,55,48,27,60,41,37,16,46,35,44,21,52,32,23,11,54,26,40,15,34,20,31,10,25,14,19,9,13,8,7,6]
theorem laid_bits {r : List (String × DataW Unit)} {W : World} (h : laidMet Tryz.prog (("math/bits.deBruijn64tab",Rows.laid_math_bits_deBruijn64tab) :: r) W) : LayD W:=by
 obtain ⟨cs,fuel,p,hd,hh⟩:=laid_head (g:=4) (ty:=209) h (by kernel_rfl) (by kernel_rfl)
 have e:=Lib.cells_of_tab (k:=.u8) (zs:=tab64) (e:=5) (n:=64) Tryz.underlying209 Tryz.underlying5 (by kernel_rfl) (by kernel_rfl) hd
 have e2 : cs = (tab64.map fun z=>Value.int .u8 z).toArray:=by rw [← e]
 subst e2
 exact hh (by decide)
def rowL (x : Int × List UInt8 × List Int) : List Value:=.int .u16 x.1 :: .string ⟨x.2.1.toArray⟩ :: x.2.2.map fun z=>Value.int .u8 z
theorem row_cells {W : World} {fuel : Nat} {cs : List Value} {x : Int × List UInt8 × List Int} {p : List MemPlace}
 (h : DataW.trod (fun _=>()) Tryz.prog W 0 (fun _=>true) false fuel 116 cs = some (.agg [.lit (.int .u16 x.1),.lit (.string x.2.1),Lib.tabData .u8 x.2.2],p)) : cs = rowL x:=by
 obtain ⟨xs,n,_,hx,hl,hlen,hg⟩:=DataW.trod_struct Tryz.underlying116 h
 have hl9 : cs.length = 9:=hl.trans (by kernel_rfl)
 match xs,hlen with
 | [y0,y1,y2],_ =>
  simp only [List.map_cons,List.map_nil,Prod.mk.injEq,DataW.agg.injEq,List.cons.injEq] at hx
  obtain ⟨⟨q0,q1,q2,_⟩,_⟩:=hx
  have k0 : Tryz.prog.cellsOf 34 = 1:=by kernel_rfl
  have k1 : Tryz.prog.cellsOf 9 = 1:=by kernel_rfl
  have k2 : Tryz.prog.cellsOf 102 = 7:=by kernel_rfl
  match cs,hl9 with
  | [c0,c1,a0,a1,a2,a3,a4,a5,a6],_ =>
   have g0 : DataW.trod (fun _=>()) Tryz.prog W 0 (fun _=>true) false n 34 (List.take (Tryz.prog.cellsOf 34) [c0,c1,a0,a1,a2,a3,a4,a5,a6]) = some y0:=hg 0 _ rfl
   have g1 : DataW.trod (fun _=>()) Tryz.prog W 0 (fun _=>true) false n 9 (List.take (Tryz.prog.cellsOf 9) [c1,a0,a1,a2,a3,a4,a5,a6]) = some y1:=hg 1 _ rfl
   have g2 : DataW.trod (fun _=>()) Tryz.prog W 0 (fun _=>true) false n 102 (List.take (Tryz.prog.cellsOf 102) [a0,a1,a2,a3,a4,a5,a6]) = some y2:=hg 2 _ rfl
   rw [k0] at g0
   rw [k1] at g1
   rw [k2] at g2
   obtain ⟨m0,e0,h0,_⟩:=DataW.trod_int Tryz.underlying34 g0
   obtain ⟨s1,e1,h1,_⟩:=DataW.trod_string Tryz.underlying9 g1
   obtain ⟨z2,pz⟩:=y2
   simp only at q2
   subst q2
   have e2:=Lib.cells_of_tab (k:=.u8) (e:=101) (n:=7) Tryz.underlying102 Tryz.underlying101 (by kernel_rfl) (by kernel_rfl) g2
   rw [h0] at q0
   rw [h1] at q1
   injection q0 with q0
   injection q0 with _ q0
   injection q1 with q1
   injection q1 with q1
   subst q0
   have es:=string_eq q1.symm
   subst es
   injection e0 with e0 _
   injection e1 with e1 _
   subst e0 e1
   unfold rowL
   rw [← e2]
   rfl
theorem chunks {L : List Value} (k n : Nat) (R : List Value) (h : (L.drop (k * 9)).take 9 = R) (h2 : n = (k + 1) * 9) : L.drop (k * 9) = R ++ L.drop n:=by
 subst h h2
 have:=(List.take_append_drop 9 (L.drop (k * 9))).symm
 rw [List.drop_drop] at this
 rw [show (k + 1) * 9 = k * 9 + 9 from by omega]
 exact this
def rowT : List (Int × List UInt8 × List Int) := [(1, [65], [1,0,0,0,0,0,0]),(2, [78,83], [5,0,0,0,0,0,0]),(5, [67,78,65,77,69], [5,0,0,0,0,0,0]),(6, [83,79,65], [5,7,9,9,9,9,9]),(12, [80,84,82], [5,0,0,0,0,0,0]),(15, [77,88], [8,5,0,0,0,0,0]),(16, [84,88,84], [3,0,0,0,0,0,0]),(28, [65,65,65,65], [2,0,0,0,0,0,0]),(33, [83,82,86], [8,8,8,6,0,0,0])]
theorem laid_rows {r : List (String × DataW Unit)} {W : World} (h : laidMet Tryz.prog (("hearsay/rdata.rows",Rows.laid_hearsay_rdata_rows) :: r) W) : LayR W:=by
 obtain ⟨cs,fuel,p,hd,hh⟩:=laid_head (g:=0) (ty:=117) h (by kernel_rfl) (by kernel_rfl)
 obtain ⟨xs,n,_,hx,hl,hlen,hg⟩:=DataW.trod_array Tryz.underlying117 hd
 have hl81 : cs.toList.length = 81:=hl.trans (by kernel_rfl)
 have hc9 : Tryz.prog.cellsOf 116 = 9:=by kernel_rfl
 rw [hc9] at hg
 have hxs : xs.map (·.1) = rowT.map fun x=>(.agg [.lit (.int .u16 x.1),.lit (.string x.2.1),Lib.tabData .u8 x.2.2] : DataW Unit):=by
  have h1 : (.agg (xs.map (·.1)) : DataW Unit) = Rows.laid_hearsay_rdata_rows:=(congrArg Prod.fst hx).symm
  injection h1 with h1
 have key : ∀ i (hi : i < 9),(cs.toList.drop (i * 9)).take 9 = rowL (rowT[i]'hi):=fun i hi=>by
  have hg1:=hg i hi
  have hxi : xs[i]? = some (xs[i]'(by omega)):=List.getElem?_eq_getElem (by omega)
  rw [hxi] at hg1
  have h2 : (xs[i]'(by omega)).1 = .agg [.lit (.int .u16 (rowT[i]'hi).1),.lit (.string (rowT[i]'hi).2.1),Lib.tabData .u8 (rowT[i]'hi).2.2]:=by
   have:=congrArg (fun l=>l[i]?) hxs
   simp only [List.getElem?_map] at this
   rw [hxi,List.getElem?_eq_getElem (show i < rowT.length from hi)] at this
   exact Option.some.inj this
  refine row_cells (p:=(xs[i]'(by omega)).2) (hg1.trans ?_)
  rw [← h2]
 have e : cs = rowsCells:=by
  have c : cs.toList.drop (0 * 9) = rowsCells.toList:=by
   rw [chunks 0 (1 * 9) _ (key 0 (by omega)) rfl,chunks 1 (2 * 9) _ (key 1 (by omega)) rfl,chunks 2 (3 * 9) _ (key 2 (by omega)) rfl,chunks 3 (4 * 9) _ (key 3 (by omega)) rfl,chunks 4 (5 * 9) _ (key 4 (by omega)) rfl,chunks 5 (6 * 9) _ (key 5 (by omega)) rfl,chunks 6 (7 * 9) _ (key 6 (by omega)) rfl,chunks 7 (8 * 9) _ (key 7 (by omega)) rfl,chunks 8 (9 * 9) _ (key 8 (by omega)) rfl,List.drop_of_length_le (by omega)]
   rfl
  rw [Nat.zero_mul,List.drop_zero] at c
  have:=congrArg List.toArray c
  simpa using this
 subst e
 exact hh (by decide)
end Go.Proofs.YtekafhogiambaaaGreatDoor
namespace Go.Proofs.YtekafhogiambaaaGreatDoor
open Go.ChangeShapes Go.WideShapes Go.ChangeAt Go.RowKit
theorem star : "*" ++ "errors.errorString" = "*errors.errorString":=by decide
theorem rowErr (u : TypeId) (h : Tryz.prog.typeName? 3 u = some "*errors.errorString") : u = 224 :=
 typeName_ptr_named (nm := "errors.errorString") (by rw [star];kernel_rfl) (by kernel_rfl) (by decide) u (by rw [star];exact h)
end Go.Proofs.YtekafhogiambaaaGreatDoor
