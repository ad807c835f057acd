/- Texts of the proofs, merged. -/
import Derived.Test.YtekafhogiambaaaGreatDoorZc24
import Derived.Test.YtekafhogiambaaaGreatDoorZc2
import Derived.Test.YtekafhogiambaaaGreatDoorZc21
import Derived.Defers
import Derived.Recover
import Derived.Test.YtekafhogiambaaaGreatDoorZc12
set_option maxRecDepth 100000
namespace Go.Proofs.YtekafhogiambaaaGreatDoor
open Go.RowKit
theorem catch_idle (p q : Addr) (w : World) :
 CallsD Tryz.prog 97 #[.pointer (some p),.pointer (some q)] .returning w fun e u' w' => e = .returned (.tuple #[]) ∧ u' = .returning ∧ w' = w:=by
 refine callsD_of_wpS Tryz.func97 rfl fun c₀ cs hu=>?_
 apply wpS_seq
 apply wpS_region
 simp [wpOpsS,go_sem,recoverD,hu,Tryz.ntmps97,Exit.thenS]
 apply wpS_seq
 apply wpS_region
 simp [wpOpsS,go_sem,Exit.thenS]
 refine wpS_cond (t:=false) (by simp [Act.eval,Array.replicate]) ?_
 simp only [Bool.false_eq_true,if_false]
 refine wpS_of_wp (wp_skip ?_)
 cases c₀
 simp_all [bodyPostS,results,Tryz.results97]
theorem Kb.toBelow {g b B : Nat} {w w' : World} (h : Kb g b w w') (hg : B ≤ g) (hb : B ≤ b) : Below B w w':=⟨h.os,h.tape,h.output,h.size,fun k hk=>h.block k (by omega) (by omega)⟩
section
variable {t : Nat} {o : ByteArray} {v : Value} {ws : List Rd.W2} {d : Rd.Dt} {w : World}
set_option maxHeartbeats 2000000 in
theorem rdRead_ok (ht : t ≤ 65535) (ho : Rd.nm o.data.toList = true) (hos : o.size ≤ 140737488355328) (hw : Ws w w.heap.size v ws) (hG : Gl w w.heap.size) (h32 : ∀ x ∈ ws,x.1.length < 4294967281) (hr : Rd.readR o.data.toList t ws = some d) :
 Calls Tryz.prog 77 #[.int .u16 t,v,.string o] w fun e w' => e = .returned (.tuple #[(dv d).val,.int .i64 0]) ∧ Below w.heap.size w w':=by
 have hmf : ∀ (fn : Fn) (first cap : Array Value) (W : World),(Instr.makeFunc fn first cap).run Tryz.prog W = .ok (.func fn first cap) W:=fun _ _ _ _=>rfl
 have hck : ∀ (W : World),Calls Tryz.prog 13 #[.string o] W fun e w' => e = .returned (.int .i64 0) ∧ Below W.heap.size W w':=fun W=>by
  have:=nameIs_any o W hos
  rw [ho] at this
  exact this
 have HCK:=Lib.hid hck
 obtain ⟨A,c,hv⟩ : ∃ A c,v = .slice A ws.length c:=hw.elim fun A h=>h.elim fun c h=>⟨A,c,h.1⟩
 subst hv
 have HW:=Lib.hid hw
 have HGL:=Lib.hid hG
 have H32:=Lib.hid h32
 have HR:=Lib.hid hr
 have HO:=Lib.hid ho
 have hi11 : (Tryz.prog.info? 155).map (·.size) = some 11:=by kernel_rfl
 have HI11:=Lib.hid hi11
 have hB0:=((Below.refl w.heap.size w).alloc (Nat.le_refl _) (.cells #[.string ⟨#[]⟩,.string ⟨#[]⟩,.string ⟨#[]⟩,.int .u32 0,.int .u32 0,.int .u32 0,.int .u32 0,.int .u32 0] 37)).alloc (by simp) (.cells #[.int .i64 0] 27)
 have hZ0:=(Has.fresh w 37 #[.string ⟨#[]⟩,.string ⟨#[]⟩,.string ⟨#[]⟩,.int .u32 0,.int .u32 0,.int .u32 0,.int .u32 0,.int .u32 0]).alloc (.cells #[.int .i64 0] 27)
 have hY0 : Has ((w.alloc (.cells #[.string ⟨#[]⟩,.string ⟨#[]⟩,.string ⟨#[]⟩,.int .u32 0,.int .u32 0,.int .u32 0,.int .u32 0,.int .u32 0] 37)).alloc (.cells #[.int .i64 0] 27)) (w.heap.size + 1) 27 #[.int .i64 0]:=new_at _ _ (by simp)
 have HB0:=Lib.hid hB0
 have HZ0:=Lib.hid hZ0
 have HY0:=Lib.hid hY0
 clear hw hG h32 hr ho hck hi11 hB0 hZ0 hY0
 go_enter_defers Tryz.func77,Tryz.ntmps77
 go_upto_region 5 with (first
  | (go_at_call 13;refine (HCK.out _).mono ?_;rintro e w1 ⟨rfl,B1⟩;have HB1:=Lib.hid (HB0.out.trans (B1.mono HB0.out.size));have HZ1:=Lib.hid (HZ0.out.below B1 HZ0.out.lt);have HY1:=Lib.hid (HY0.out.below B1 HY0.out.lt);clear B1)
  | (refine wpList_store_row rfl 155 (.tmp 8) (.tmp 16) rfl w1.heap.size (rdC (.slice A ws.length c) o Rd.dt0 0) rfl rfl 155 _ (Has.fresh w1 _ _) HI11.out rfl (by simp [rdC,Value.oneCell']) ?_))
 have hS2:=(Has.fresh w1 155 #[.slice none 0 0,.string ⟨#[]⟩,.string ⟨#[]⟩,.string ⟨#[]⟩,.string ⟨#[]⟩,.int .u32 0,.int .u32 0,.int .u32 0,.int .u32 0,.int .u32 0,.int .i64 0]).row (rdC (.slice A ws.length c) o Rd.dt0 0)
 have hB2:=below_setRow ((Below.refl w1.heap.size w1).alloc (Nat.le_refl _) (.cells #[.slice none 0 0,.string ⟨#[]⟩,.string ⟨#[]⟩,.string ⟨#[]⟩,.string ⟨#[]⟩,.int .u32 0,.int .u32 0,.int .u32 0,.int .u32 0,.int .u32 0,.int .i64 0] 155)) (g:=w1.heap.size) (Nat.le_refl _) (rdC (.slice A ws.length c) o Rd.dt0 0)
 have hsz1:=HB1.out.size
 have hy1:=HY1.out.lt
 generalize World.setRow _ _ _ = W2 at *
 have hst : St W2 w1.heap.size w.heap.size o ws Rd.dt0 0:=⟨_,hS2,HW.out.keep (HB1.out.trans (hB2.mono hsz1)),hsz1,HGL.out.below (HB1.out.trans (hB2.mono hsz1))⟩
 have HST:=Lib.hid hst
 have HZ2:=Lib.hid (HZ1.out.below hB2 HZ1.out.lt)
 have HY2:=Lib.hid (HY1.out.below hB2 HY1.out.lt)
 have HB2:=Lib.hid (HB1.out.trans (hB2.mono hsz1))
 clear hS2 hB2 hst
 obtain ⟨r,h,m,n0,n1,n2,n3,n4⟩:=d
 have hi8 : (Tryz.prog.info? 37).map (·.size) = some 8:=by kernel_rfl
 have HI:=Lib.hid hi8
 clear hi8
 cases ws with
 | nil =>
  have HC : Hid (Calls Tryz.prog 99 #[.pointer (some ⟨w1.heap.size,0,none⟩),.int .u16 t] W2 fun e w' => e = .returned (.agg #[sv r,sv h,sv m,.int .u32 n0,.int .u32 n1,.int .u32 n2,.int .u32 n3,.int .u32 n4]) ∧ Kb w1.heap.size W2.heap.size W2 w'):=rdKnown_ok HST.out ht HR.out H32.out hos
  go_wp2_with (first
   | (go_at_call 99;refine HC.out.mono ?_;rintro e w3 ⟨rfl,K3⟩;have HZ3:=Lib.hid (K3.has HZ2.out HZ2.out.lt (by omega));have HY3:=Lib.hid (K3.has HY2.out HY2.out.lt (by omega));have HB3:=Lib.hid (HB2.out.trans (K3.toBelow (by omega) (by have:=HB2.out.size;omega)));clear K3)
   | (refine wpList_store_row rfl 37 (.tmp 6) (.tmp 37) rfl w.heap.size #[sv r,sv h,sv m,.int .u32 n0,.int .u32 n1,.int .u32 n2,.int .u32 n3,.int .u32 n4] rfl rfl 37 _ HZ3.out HI.out rfl (by simp [Value.oneCell']) ?_;have hY4:=HY3.out.rowFar (g':=w.heap.size) (by omega) #[sv r,sv h,sv m,.int .u32 n0,.int .u32 n1,.int .u32 n2,.int .u32 n3,.int .u32 n4];have hZ4:=HZ3.out.row #[sv r,sv h,sv m,.int .u32 n0,.int .u32 n1,.int .u32 n2,.int .u32 n3,.int .u32 n4];have hB4:=below_setRow HB3.out (g:=w.heap.size) (Nat.le_refl _) #[sv r,sv h,sv m,.int .u32 n0,.int .u32 n1,.int .u32 n2,.int .u32 n3,.int .u32 n4];generalize World.setRow _ _ _ = w4 at *;have c4 : w4.cell? ⟨w.heap.size + 1,0,none⟩ = some (.int .i64 0):=(by rw [hY4.cell];rfl);have f4:=hY4.free 0;have HY4:=Lib.hid hY4;have HZ4:=Lib.hid hZ4;have HB4:=Lib.hid hB4;clear hY4 hZ4 hB4))
  have hZ5:=HZ4.out.far (p:=⟨w.heap.size + 1,0,none⟩) (by simp) (.int .i64 0)
  have hY5:=HY4.out.set 0 (.int .i64 0)
  replace hY5 : Has _ (w.heap.size + 1) 27 #[.int .i64 0]:=hY5
  have hB5:=HB4.out.setCell (p:=⟨w.heap.size + 1,0,none⟩) (by simp) (.int .i64 0)
  clear c4 f4
  generalize World.setCell _ _ _ = w5 at *
  have z0 : w5.cell? ⟨w.heap.size,0,none⟩ = some (sv r):=by rw [hZ5.cell];rfl
  have z1 : w5.cell? ⟨w.heap.size,1,none⟩ = some (sv h):=by rw [hZ5.cell];rfl
  have z2 : w5.cell? ⟨w.heap.size,2,none⟩ = some (sv m):=by rw [hZ5.cell];rfl
  have z3 : w5.cell? ⟨w.heap.size,3,none⟩ = some (.int .u32 n0):=by rw [hZ5.cell];rfl
  have z4 : w5.cell? ⟨w.heap.size,4,none⟩ = some (.int .u32 n1):=by rw [hZ5.cell];rfl
  have z5 : w5.cell? ⟨w.heap.size,5,none⟩ = some (.int .u32 n2):=by rw [hZ5.cell];rfl
  have z6 : w5.cell? ⟨w.heap.size,6,none⟩ = some (.int .u32 n3):=by rw [hZ5.cell];rfl
  have z7 : w5.cell? ⟨w.heap.size,7,none⟩ = some (.int .u32 n4):=by rw [hZ5.cell];rfl
  have y0 : w5.cell? ⟨w.heap.size + 1,0,none⟩ = some (.int .i64 0):=by rw [hY5.cell];rfl
  have HB5:=Lib.hid hB5
  clear hZ5 hY5 hB5
  refine leaves_cons (f:=97) (args:=#[.pointer (some ⟨w.heap.size,0,none⟩),.pointer (some ⟨w.heap.size + 1,0,none⟩)]) (by simp) (by simp [go_sem]) ?_
  refine (catch_idle _ _ _).mono ?_
  rintro e u' w'' ⟨rfl,rfl,rfl⟩
  simp [Leaves,settle,results,Tryz.results77,go_sem,z0,z1,z2,z3,z4,z5,z6,z7,y0]
  exact ⟨rfl,HB5.out⟩
 | cons x rs =>
  obtain ⟨q,p,c',l,k,hv,hc,hm,hq,hrg,_⟩:=HW.out.head
  injection hv with hv1 hv2 hv3
  subst hv1
  subst hv3
  obtain ⟨x0,x1,_,_⟩:=wdC_cells (range_below HB2.out hq hrg)
  have hl1 : ((x :: rs).length : Int) = (rs.length : Int) + 1:=by simp
  clear hrg hv2 hl1
  obtain ⟨xt,xq⟩:=x
  by_cases hx : xt = [92,35]
  · subst hx
    replace x0 : W2.cell? ⟨q,p,none⟩ = some (.string ⟨#[92,35]⟩):=x0
    have hb : ((⟨#[92,35]⟩ : ByteArray).toList == (⟨#[92,35]⟩ : ByteArray).toList) = true:=(Lib.bytes_beq_iff _ _).2 rfl
    cases xq with
    | true =>
     have HRK : Hid (Rd.knownR o.data.toList t (([92,35],true) :: rs) = some ⟨r,h,m,n0,n1,n2,n3,n4⟩):=by
      have:=HR.out
      unfold Rd.readR at this
      rw [Hid]
      simpa using this
     have HC : Hid (Calls Tryz.prog 99 #[.pointer (some ⟨w1.heap.size,0,none⟩),.int .u16 t] W2 fun e w' => e = .returned (.agg #[sv r,sv h,sv m,.int .u32 n0,.int .u32 n1,.int .u32 n2,.int .u32 n3,.int .u32 n4]) ∧ Kb w1.heap.size W2.heap.size W2 w'):=rdKnown_ok HST.out ht HRK.out H32.out hos
     go_wp2_with (first
      | (go_at_call 99;refine HC.out.mono ?_;rintro e w3 ⟨rfl,K3⟩;have HZ3:=Lib.hid (K3.has HZ2.out HZ2.out.lt (by omega));have HY3:=Lib.hid (K3.has HY2.out HY2.out.lt (by omega));have HB3:=Lib.hid (HB2.out.trans (K3.toBelow (by omega) (by have:=HB2.out.size;omega)));clear K3)
      | (refine wpList_store_row rfl 37 (.tmp 6) (.tmp 37) rfl w.heap.size #[sv r,sv h,sv m,.int .u32 n0,.int .u32 n1,.int .u32 n2,.int .u32 n3,.int .u32 n4] rfl rfl 37 _ HZ3.out HI.out rfl (by simp [Value.oneCell']) ?_;have hY4:=HY3.out.rowFar (g':=w.heap.size) (by omega) #[sv r,sv h,sv m,.int .u32 n0,.int .u32 n1,.int .u32 n2,.int .u32 n3,.int .u32 n4];have hZ4:=HZ3.out.row #[sv r,sv h,sv m,.int .u32 n0,.int .u32 n1,.int .u32 n2,.int .u32 n3,.int .u32 n4];have hB4:=below_setRow HB3.out (g:=w.heap.size) (Nat.le_refl _) #[sv r,sv h,sv m,.int .u32 n0,.int .u32 n1,.int .u32 n2,.int .u32 n3,.int .u32 n4];generalize World.setRow _ _ _ = w4 at *;have c4 : w4.cell? ⟨w.heap.size + 1,0,none⟩ = some (.int .i64 0):=(by rw [hY4.cell];rfl);have f4:=hY4.free 0;have HY4:=Lib.hid hY4;have HZ4:=Lib.hid hZ4;have HB4:=Lib.hid hB4;clear hY4 hZ4 hB4))
     have hZ5:=HZ4.out.far (p:=⟨w.heap.size + 1,0,none⟩) (by simp) (.int .i64 0)
     have hY5:=HY4.out.set 0 (.int .i64 0)
     replace hY5 : Has _ (w.heap.size + 1) 27 #[.int .i64 0]:=hY5
     have hB5:=HB4.out.setCell (p:=⟨w.heap.size + 1,0,none⟩) (by simp) (.int .i64 0)
     clear c4 f4
     generalize World.setCell _ _ _ = w5 at *
     have z0 : w5.cell? ⟨w.heap.size,0,none⟩ = some (sv r):=by rw [hZ5.cell];rfl
     have z1 : w5.cell? ⟨w.heap.size,1,none⟩ = some (sv h):=by rw [hZ5.cell];rfl
     have z2 : w5.cell? ⟨w.heap.size,2,none⟩ = some (sv m):=by rw [hZ5.cell];rfl
     have z3 : w5.cell? ⟨w.heap.size,3,none⟩ = some (.int .u32 n0):=by rw [hZ5.cell];rfl
     have z4 : w5.cell? ⟨w.heap.size,4,none⟩ = some (.int .u32 n1):=by rw [hZ5.cell];rfl
     have z5 : w5.cell? ⟨w.heap.size,5,none⟩ = some (.int .u32 n2):=by rw [hZ5.cell];rfl
     have z6 : w5.cell? ⟨w.heap.size,6,none⟩ = some (.int .u32 n3):=by rw [hZ5.cell];rfl
     have z7 : w5.cell? ⟨w.heap.size,7,none⟩ = some (.int .u32 n4):=by rw [hZ5.cell];rfl
     have y0 : w5.cell? ⟨w.heap.size + 1,0,none⟩ = some (.int .i64 0):=by rw [hY5.cell];rfl
     have HB5:=Lib.hid hB5
     clear hZ5 hY5 hB5
     refine leaves_cons (f:=97) (args:=#[.pointer (some ⟨w.heap.size,0,none⟩),.pointer (some ⟨w.heap.size + 1,0,none⟩)]) (by simp) (by simp [go_sem]) ?_
     refine (catch_idle _ _ _).mono ?_
     rintro e u' w'' ⟨rfl,rfl,rfl⟩
     simp [Leaves,settle,results,Tryz.results77,go_sem,z0,z1,z2,z3,z4,z5,z6,z7,y0]
     exact ⟨rfl,HB5.out⟩
    | false =>
     have hra:=HR.out
     unfold Rd.readR at hra
     simp only [and_self,if_true] at hra
     obtain ⟨raw,hra2,he⟩:=Option.bind_eq_some_iff.1 hra
     have HC : Hid (Calls Tryz.prog 98 #[.pointer (some ⟨w1.heap.size,0,none⟩),.int .u16 t] W2 fun e w' => e = .returned (.agg #[sv r,sv h,sv m,.int .u32 n0,.int .u32 n1,.int .u32 n2,.int .u32 n3,.int .u32 n4]) ∧ Kb w1.heap.size W2.heap.size W2 w'):=by
      exact rdAny_ok HST.out ht hra2 he (fun y hy=>H32.out y (by simp [hy]))
     clear hra hra2 he
     go_wp2_with (first
      | (go_at_call 98;refine HC.out.mono ?_;rintro e w3 ⟨rfl,K3⟩;have HZ3:=Lib.hid (K3.has HZ2.out HZ2.out.lt (by omega));have HY3:=Lib.hid (K3.has HY2.out HY2.out.lt (by omega));have HB3:=Lib.hid (HB2.out.trans (K3.toBelow (by omega) (by have:=HB2.out.size;omega)));clear K3)
      | (refine wpList_store_row rfl 37 (.tmp 6) (.tmp 35) rfl w.heap.size #[sv r,sv h,sv m,.int .u32 n0,.int .u32 n1,.int .u32 n2,.int .u32 n3,.int .u32 n4] rfl rfl 37 _ HZ3.out HI.out rfl (by simp [Value.oneCell']) ?_;have hY4:=HY3.out.rowFar (g':=w.heap.size) (by omega) #[sv r,sv h,sv m,.int .u32 n0,.int .u32 n1,.int .u32 n2,.int .u32 n3,.int .u32 n4];have hZ4:=HZ3.out.row #[sv r,sv h,sv m,.int .u32 n0,.int .u32 n1,.int .u32 n2,.int .u32 n3,.int .u32 n4];have hB4:=below_setRow HB3.out (g:=w.heap.size) (Nat.le_refl _) #[sv r,sv h,sv m,.int .u32 n0,.int .u32 n1,.int .u32 n2,.int .u32 n3,.int .u32 n4];generalize World.setRow _ _ _ = w4 at *;have c4 : w4.cell? ⟨w.heap.size + 1,0,none⟩ = some (.int .i64 0):=(by rw [hY4.cell];rfl);have f4:=hY4.free 0;have HY4:=Lib.hid hY4;have HZ4:=Lib.hid hZ4;have HB4:=Lib.hid hB4;clear hY4 hZ4 hB4))
     have hZ5:=HZ4.out.far (p:=⟨w.heap.size + 1,0,none⟩) (by simp) (.int .i64 0)
     have hY5:=HY4.out.set 0 (.int .i64 0)
     replace hY5 : Has _ (w.heap.size + 1) 27 #[.int .i64 0]:=hY5
     have hB5:=HB4.out.setCell (p:=⟨w.heap.size + 1,0,none⟩) (by simp) (.int .i64 0)
     clear c4 f4
     generalize World.setCell _ _ _ = w5 at *
     have z0 : w5.cell? ⟨w.heap.size,0,none⟩ = some (sv r):=by rw [hZ5.cell];rfl
     have z1 : w5.cell? ⟨w.heap.size,1,none⟩ = some (sv h):=by rw [hZ5.cell];rfl
     have z2 : w5.cell? ⟨w.heap.size,2,none⟩ = some (sv m):=by rw [hZ5.cell];rfl
     have z3 : w5.cell? ⟨w.heap.size,3,none⟩ = some (.int .u32 n0):=by rw [hZ5.cell];rfl
     have z4 : w5.cell? ⟨w.heap.size,4,none⟩ = some (.int .u32 n1):=by rw [hZ5.cell];rfl
     have z5 : w5.cell? ⟨w.heap.size,5,none⟩ = some (.int .u32 n2):=by rw [hZ5.cell];rfl
     have z6 : w5.cell? ⟨w.heap.size,6,none⟩ = some (.int .u32 n3):=by rw [hZ5.cell];rfl
     have z7 : w5.cell? ⟨w.heap.size,7,none⟩ = some (.int .u32 n4):=by rw [hZ5.cell];rfl
     have y0 : w5.cell? ⟨w.heap.size + 1,0,none⟩ = some (.int .i64 0):=by rw [hY5.cell];rfl
     have HB5:=Lib.hid hB5
     clear hZ5 hY5 hB5
     refine leaves_cons (f:=97) (args:=#[.pointer (some ⟨w.heap.size,0,none⟩),.pointer (some ⟨w.heap.size + 1,0,none⟩)]) (by simp) (by simp [go_sem]) ?_
     refine (catch_idle _ _ _).mono ?_
     rintro e u' w'' ⟨rfl,rfl,rfl⟩
     simp [Leaves,settle,results,Tryz.results77,go_sem,z0,z1,z2,z3,z4,z5,z6,z7,y0]
     exact ⟨rfl,HB5.out⟩
  · have hb : (xt == ([92,35] : List UInt8)) = false:=beq_eq_false_iff_ne.2 hx
    have HRK : Hid (Rd.knownR o.data.toList t ((xt,xq) :: rs) = some ⟨r,h,m,n0,n1,n2,n3,n4⟩):=by
     have:=HR.out
     unfold Rd.readR at this
     simp only [hx,false_and,if_false] at this
     exact this
    clear hx
    have HC : Hid (Calls Tryz.prog 99 #[.pointer (some ⟨w1.heap.size,0,none⟩),.int .u16 t] W2 fun e w' => e = .returned (.agg #[sv r,sv h,sv m,.int .u32 n0,.int .u32 n1,.int .u32 n2,.int .u32 n3,.int .u32 n4]) ∧ Kb w1.heap.size W2.heap.size W2 w'):=rdKnown_ok HST.out ht HRK.out H32.out hos
    go_wp2_with (first
     | (go_at_call 99;refine HC.out.mono ?_;rintro e w3 ⟨rfl,K3⟩;have HZ3:=Lib.hid (K3.has HZ2.out HZ2.out.lt (by omega));have HY3:=Lib.hid (K3.has HY2.out HY2.out.lt (by omega));have HB3:=Lib.hid (HB2.out.trans (K3.toBelow (by omega) (by have:=HB2.out.size;omega)));clear K3)
     | (refine wpList_store_row rfl 37 (.tmp 6) (.tmp 37) rfl w.heap.size #[sv r,sv h,sv m,.int .u32 n0,.int .u32 n1,.int .u32 n2,.int .u32 n3,.int .u32 n4] rfl rfl 37 _ HZ3.out HI.out rfl (by simp [Value.oneCell']) ?_;have hY4:=HY3.out.rowFar (g':=w.heap.size) (by omega) #[sv r,sv h,sv m,.int .u32 n0,.int .u32 n1,.int .u32 n2,.int .u32 n3,.int .u32 n4];have hZ4:=HZ3.out.row #[sv r,sv h,sv m,.int .u32 n0,.int .u32 n1,.int .u32 n2,.int .u32 n3,.int .u32 n4];have hB4:=below_setRow HB3.out (g:=w.heap.size) (Nat.le_refl _) #[sv r,sv h,sv m,.int .u32 n0,.int .u32 n1,.int .u32 n2,.int .u32 n3,.int .u32 n4];generalize World.setRow _ _ _ = w4 at *;have c4 : w4.cell? ⟨w.heap.size + 1,0,none⟩ = some (.int .i64 0):=(by rw [hY4.cell];rfl);have f4:=hY4.free 0;have HY4:=Lib.hid hY4;have HZ4:=Lib.hid hZ4;have HB4:=Lib.hid hB4;clear hY4 hZ4 hB4))
    have hZ5:=HZ4.out.far (p:=⟨w.heap.size + 1,0,none⟩) (by simp) (.int .i64 0)
    have hY5:=HY4.out.set 0 (.int .i64 0)
    replace hY5 : Has _ (w.heap.size + 1) 27 #[.int .i64 0]:=hY5
    have hB5:=HB4.out.setCell (p:=⟨w.heap.size + 1,0,none⟩) (by simp) (.int .i64 0)
    clear c4 f4
    generalize World.setCell _ _ _ = w5 at *
    have z0 : w5.cell? ⟨w.heap.size,0,none⟩ = some (sv r):=by rw [hZ5.cell];rfl
    have z1 : w5.cell? ⟨w.heap.size,1,none⟩ = some (sv h):=by rw [hZ5.cell];rfl
    have z2 : w5.cell? ⟨w.heap.size,2,none⟩ = some (sv m):=by rw [hZ5.cell];rfl
    have z3 : w5.cell? ⟨w.heap.size,3,none⟩ = some (.int .u32 n0):=by rw [hZ5.cell];rfl
    have z4 : w5.cell? ⟨w.heap.size,4,none⟩ = some (.int .u32 n1):=by rw [hZ5.cell];rfl
    have z5 : w5.cell? ⟨w.heap.size,5,none⟩ = some (.int .u32 n2):=by rw [hZ5.cell];rfl
    have z6 : w5.cell? ⟨w.heap.size,6,none⟩ = some (.int .u32 n3):=by rw [hZ5.cell];rfl
    have z7 : w5.cell? ⟨w.heap.size,7,none⟩ = some (.int .u32 n4):=by rw [hZ5.cell];rfl
    have y0 : w5.cell? ⟨w.heap.size + 1,0,none⟩ = some (.int .i64 0):=by rw [hY5.cell];rfl
    have HB5:=Lib.hid hB5
    clear hZ5 hY5 hB5
    refine leaves_cons (f:=97) (args:=#[.pointer (some ⟨w.heap.size,0,none⟩),.pointer (some ⟨w.heap.size + 1,0,none⟩)]) (by simp) (by simp [go_sem]) ?_
    refine (catch_idle _ _ _).mono ?_
    rintro e u' w'' ⟨rfl,rfl,rfl⟩
    simp [Leaves,settle,results,Tryz.results77,go_sem,z0,z1,z2,z3,z4,z5,z6,z7,y0]
    exact ⟨rfl,HB5.out⟩
end
end Go.Proofs.YtekafhogiambaaaGreatDoor
namespace Go.Proofs.YtekafhogiambaaaGreatDoor
open Go.RowKit
theorem uintV_form (o : Option Nat) : ∃ (v : Nat) (b : Bool),uintV o = .tuple #[.int .u32 v,.bool b] ∧ (o = none → v = 0 ∧ b = false) ∧ (∀ x,o = some x → v = x ∧ b = true):=by
 cases o with
 | none=>exact ⟨0,false,rfl,fun _=>⟨rfl,rfl⟩,fun x h=>by cases h⟩
 | some v=>exact ⟨v,true,rfl,fun h=>(by cases h),fun x h=>by cases h;exact ⟨rfl,rfl⟩⟩
theorem pre4 (l : List UInt8) : Lib.hasPrefix l [116,121,112,101] = true ↔ l.take 4 = [116,121,112,101]:=by
 unfold Lib.hasPrefix
 rw [List.isPrefixOf_iff_prefix,List.prefix_iff_eq_take]
 exact ⟨fun h=>h.symm,fun h=>h.symm⟩
theorem fold_drop4 (l : List UInt8) : (Nm.fold l).drop 4 = Nm.fold (l.drop 4):=by simp [Nm.fold,List.map_drop]
set_option maxHeartbeats 4000000 in
theorem TypeOf_any (s : ByteArray) (w : World) (hL : LayA w) (hE : Lay w) (hs : s.size ≤ 140737488355328) :
 Calls Tryz.prog 76 #[.string s] w fun e w' => e = .returned (tyV (Rd.tyOf s.data.toList)) ∧ Below w.heap.size w w':=by
 obtain ⟨R,hR⟩ : ∃ R,Rd.tyOf s.data.toList = R:=⟨_,rfl⟩
 rw [hR]
 have HR:=Lib.hid hR
 have HL:=Lib.hid hL
 have HE:=Lib.hid hE
 have HS:=Lib.hid (fun (W : World)=>small_s s W hs)
 have HX:=Lib.hid (fun (k : Nat) (W : World)=>small_s ⟨(Rd.txt k).toArray⟩ W (by rw [mk_size];have:=Rd.txt_len k;omega))
 obtain ⟨low,hlow⟩ : ∃ low : ByteArray,(⟨(Nm.fold s.data.toList).toArray⟩ : ByteArray) = low:=⟨_,rfl⟩
 have HLO : Hid (low.data.toList = Nm.fold s.data.toList):=by show _ = _;rw [← hlow]
 have hfl : low.size = s.size:=by
  have e:=congrArg List.length HLO.out
  rw [fold_len] at e
  have e1 : low.data.toList.length = low.size:=by simp
  have e2 : s.data.toList.length = s.size:=by simp
  omega
 have hls : low.size ≤ 140737488355328:=by omega
 have e0 : sv (Nm.fold s.data.toList) = .string low:=by rw [← hlow]
 rw [e0] at HS
 clear hR hlow hL hE e0 hfl
 go_enter Tryz.func76,Tryz.ntmps76
 go_wp2_with (go_at_call 94;refine (HS.out _).mono ?_;rintro e w1 ⟨rfl,B1⟩;have HB1:=Lib.hid B1;clear B1)
 go_loopw [12] (fun i wr => ∃ k : Nat,i = .int .i64 k ∧ k ≤ 9 ∧ Hid (∀ j,j < k → Nm.fold s.data.toList ≠ Nm.fold (Rd.txt j)) ∧ Hid (Below w.heap.size w wr)) (fun i _=>9 - (intOf i).toNat)
 case atStart=>exact ⟨0,rfl,by omega,fun j hj=>absurd hj (by omega),HB1.out⟩
 case round =>
  obtain ⟨k,rfl,hk,HJ,HB⟩:=hrel
  have hbs:=HB.out.size
  by_cases hlt : k < 9
  · have hla:=HL.out.below HB.out (Nat.le_refl _)
    have c0:=rowNum hla.1 hlt
    have c1:=rowTxt hla.1 hlt
    have HTX:=Lib.hid (HX.out k)
    obtain ⟨x,hx1,hx2⟩:=sv_str (Nm.fold (Rd.txt k))
    obtain ⟨y,hy1,hy2⟩:=sv_str (Rd.txt k)
    have hyy : (⟨(Rd.txt k).toArray⟩ : ByteArray) = y:=by injection hy1
    rw [hyy] at HTX
    rw [← hy2] at HTX
    rw [hy1] at c1
    have hxx : sv (Nm.fold y.data.toList) = .string x:=by rw [hy2,hx1]
    rw [show (sv (Nm.fold y.data.toList)) = .string x from hxx] at HTX
    have htk:=@Rd.tyOf_at k s.data.toList hlt
    have HTK:=Lib.hid htk
    have hty:=Rd.ty_le k
    have HX2:=Lib.hid hx2
    clear hx1 hx2 hy1 hy2 hyy hxx htk hla
    generalize hyt : Rd.ty k = ty at *
    have HYT:=Lib.hid hyt
    clear hyt
    by_cases he : x.data.toList = low.data.toList
    · have hb:=rd_strEq he
      have HQ : Hid (R = some ty):=by rw [← HR.out];exact HTK.out (by rw [← HLO.out,← he,HX2.out])
      clear he
      go_wp2_with (go_at_call 94;refine (HTX.out _).mono ?_;rintro e w2 ⟨rfl,B2⟩;have HB2:=Lib.hid (HB.out.trans (B2.mono hbs));have hlb:=HL.out.below HB2.out (Nat.le_refl _);have d0:=rowNum hlb.1 hlt;rw [HYT.out] at d0;clear hlb B2)
      go_ret2
      exact ⟨by rw [HQ.out];rfl,HB2.out⟩
    · have hb:=rd_strNe he
      have HNE : Hid (Nm.fold s.data.toList ≠ Nm.fold (Rd.txt k)):=fun e=>he (by rw [HLO.out,e,HX2.out])
      clear he
      go_wp2_with (go_at_call 94;refine (HTX.out _).mono ?_;rintro e w2 ⟨rfl,B2⟩;have HB2:=Lib.hid (HB.out.trans (B2.mono hbs));clear B2)
      go_roundw
      case rel=>exact ⟨k + 1,by go_num,by omega,fun j hj=>(Nat.lt_succ_iff_lt_or_eq.1 hj).elim (HJ.out j) (fun e=>by subst e;exact HNE.out),HB2.out⟩
      case measure=>simp [intOf];omega
  · obtain rfl : k = 9:=by omega
    have ht:=Rd.tyOf_no HJ.out
    rw [HR.out] at ht
    have HT:=Lib.hid ht
    clear ht
    have HCP:=Lib.hid (fun (W : World)=>Tryz.strings_CutPrefix low ⟨#[116,121,112,101]⟩ W)
    obtain ⟨dg,hdg⟩ : ∃ dg : ByteArray,(⟨(Lib.trimPrefix low.data.toList (⟨#[116,121,112,101]⟩ : ByteArray).data.toList).toArray⟩ : ByteArray) = dg:=⟨_,rfl⟩
    have hdl : dg.data.toList = Lib.trimPrefix low.data.toList [116,121,112,101]:=by rw [← hdg]
    have hds : dg.size ≤ 140737488355328:=by
     have e1 : dg.data.toList.length = dg.size:=by simp
     have e2 : low.data.toList.length = low.size:=by simp
     rw [hdl] at e1
     unfold Lib.trimPrefix at e1
     split at e1
     · rw [List.length_drop] at e1;omega
     · omega
    obtain ⟨b,hb⟩ : ∃ b,Lib.hasPrefix low.data.toList (⟨#[116,121,112,101]⟩ : ByteArray).data.toList = b:=⟨_,rfl⟩
    rw [hdg,hb] at HCP
    obtain ⟨v,ok,hv,hv0,hv1⟩:=uintV_form (Rd.num dg.data.toList 65535)
    have HNU:=Lib.hid (fun (W : World) (h : Lay W)=>number16_any dg W h hds)
    rw [hv] at HNU
    have hb4 : Lib.hasPrefix low.data.toList [116,121,112,101] = b:=hb
    have hE2:=Lib.hid (HE.out.below HB.out HE.out.size)
    cases b with
    | false =>
     have hy : ¬ (Nm.fold s.data.toList).take 4 = [116,121,112,101]:=by
      rw [← HLO.out,← pre4,hb4];simp
     have hq : R = none:=by rw [HT.out,if_neg hy]
     have HQ:=Lib.hid hq
     clear hy hb4 hv hv0 hv1 hdl hdg hb hq
     cases ok
     all_goals
      (go_wp2_with (first
       | (go_at_call 95;refine (HCP.out _).mono ?_;rintro e w2 ⟨rfl,rfl⟩)
       | (go_at_call 96;refine (HNU.out _ hE2.out).mono ?_;rintro e w3 ⟨rfl,B3⟩))
       go_ret2
       exact ⟨by rw [HQ.out];rfl,HB.out.trans (B3.mono hbs)⟩)
    | true =>
     have hy : (Nm.fold s.data.toList).take 4 = [116,121,112,101]:=by
      rw [← HLO.out,← pre4,hb4]
     have hdd : Rd.num dg.data.toList 65535 = Rd.num (s.data.toList.drop 4) 65535:=by
      rw [hdl]
      unfold Lib.trimPrefix
      rw [hb4,if_pos rfl,HLO.out]
      show Rd.num ((Nm.fold s.data.toList).drop 4) 65535 = _
      rw [fold_drop4,Rd.num_fold]
     have hq : R = Rd.num dg.data.toList 65535:=by rw [HT.out,if_pos hy,hdd]
     cases hn : Rd.num dg.data.toList 65535 with
     | none =>
      obtain ⟨rfl,rfl⟩:=hv0 hn
      rw [hn] at hq
      have HQ:=Lib.hid hq
      clear hy hb4 hv hv0 hv1 hdl hdg hb hdd hq hn
      go_wp2_with (first
       | (go_at_call 95;refine (HCP.out _).mono ?_;rintro e w2 ⟨rfl,rfl⟩)
       | (go_at_call 96;refine (HNU.out _ hE2.out).mono ?_;rintro e w3 ⟨rfl,B3⟩))
      go_ret2
      exact ⟨by rw [HQ.out];rfl,HB.out.trans (B3.mono hbs)⟩
     | some z =>
      obtain ⟨rfl,rfl⟩:=hv1 z hn
      have hz:=Rd.num_le hn
      rw [hn] at hq
      have HQ:=Lib.hid hq
      clear hy hb4 hv hv0 hv1 hdl hdg hb hdd hq hn
      go_wp2_with (first
       | (go_at_call 95;refine (HCP.out _).mono ?_;rintro e w2 ⟨rfl,rfl⟩)
       | (go_at_call 96;refine (HNU.out _ hE2.out).mono ?_;rintro e w3 ⟨rfl,B3⟩))
      go_ret2
      exact ⟨by rw [HQ.out];rfl,HB.out.trans (B3.mono hbs)⟩
end Go.Proofs.YtekafhogiambaaaGreatDoor
