/- Texts of the proofs, merged. -/
import Derived.Test.YtekafhogiambaaaGreatDoorZc17
set_option maxRecDepth 100000
namespace Go.Proofs.YtekafhogiambaaaGreatDoor
open Go.RowKit
set_option maxHeartbeats 1000000 in
theorem row_arg (g B c lo : Nat) (A : Option Addr) (l X : List UInt8) (ld : Bool) (tw z : Int) (W : World) (h : RS W g B A l.length c X ld tw) (hc : l.length ≤ c) (hm : l.length ≤ 211106232532992) (hb : Bs W lo B A l)
 (hz : z < 0 ∨ (l.length : Int) < z) :
 Calls Tryz.prog 169 #[.pointer (some ⟨g,0,none⟩),.int .i64 z] W fun e W' => e = .returned (.tuple #[.int .i64 0,.int .i64 1]) ∧ W = W':=by
 obtain ⟨hB,vL,h1,h2⟩:=h
 have c0 : W.cell? ⟨g,0,none⟩ = some (.slice A l.length c):=by rw [h1.cell];rfl
 have hT:=take_u8 A l c z W hc hm lo B hb
 rw [takeV_arg hz] at hT
 have HT:=Lib.hid hT
 clear h1 h2 hT hb hz
 go_enter Tryz.func169,Tryz.ntmps169
 go_wp2
 refine wp_loop_rounds 1 ?_
 rw [rounds_succ]
 go_wp2_with (go_at_call 129;refine HT.out.mono ?_;rintro e w' ⟨rfl,rfl⟩)
 go_ret2
 exact ⟨rfl,rfl⟩
def rdM (g : Nat) (e : Value) (w : World) : Nat :=
 if intOf e = 0 then match w.cell? ⟨g,2,none⟩,w.cell? ⟨g,3,none⟩ with
  | some (.bool true),some (.int _ p)=>p.toNat + 1
  | _,_=>0
 else 0
theorem rdM_err {g : Nat} {er : Int} {w : World} (h : (er == 0) = false) : rdM g (.int .i64 er) w = 0:=by
 unfold rdM;rw [if_neg (by simpa [intOf] using h)]
theorem rdM_rs {g B : Nat} {A : Option Addr} {n c : Nat} {X : List UInt8} {ld : Bool} {p : Nat} {w : World} (h : RS w g B A n c X ld p) : rdM g (.int .i64 0) w = if ld then p + 1 else 0:=by
 obtain ⟨_,vL,h1,_⟩:=h
 have c2 : w.cell? ⟨g,2,none⟩ = some (.bool ld):=by rw [h1.cell];rfl
 have c3 : w.cell? ⟨g,3,none⟩ = some (.int .i64 p):=by rw [h1.cell];rfl
 unfold rdM
 rw [c2,c3]
 cases ld <;> simp [intOf]
def TkI (l : List UInt8) (g B c n : Nat) (A : Option Addr) (bh : Nat) (er : Int) (wr : World) : Prop :=
 ((er == 0) = false ∧ Pr.tk l n n 1 = .err er) ∨
 (er = 0 ∧ ∃ ls tw,RS wr g B A l.length c (Nm.body ls) false tw ∧ (Nm.body ls).length ≤ 254 ∧ Pr.tk l n n 1 = .ok ls bh) ∨
 (er = 0 ∧ ∃ ls p,RS wr g B A l.length c (Nm.body ls) true (p : Nat) ∧ p ≤ l.length ∧ (Nm.body ls).length ≤ 254 ∧ Pr.tk l n n 1 = Pr.fin ls (some bh) (Pr.tk l p p (1 + (Nm.body ls).length)))
theorem rdM_any {g : Nat} {er : Int} {w : World} {p : Nat} (h : (er == 0) = false) : rdM g (.int .i64 er) w < p + 1:=by rw [rdM_err h];omega
theorem row_first (g B c lo n : Nat) (A : Option Addr) (l : List UInt8) (ld : Bool) (tw : Int) (W : World) (h : RS W g B A l.length c [] ld tw) (hc : l.length ≤ c) (hm : l.length ≤ 211106232532992) (hb : Bs W lo B A l) (hBW : B ≤ W.heap.size) (hn : n ≤ l.length) :
 Calls Tryz.prog 169 #[.pointer (some ⟨g,0,none⟩),.int .i64 n] W fun e W' => ∃ (bh : Nat) (er : Int),e = .returned (.tuple #[.int .i64 bh,.int .i64 er]) ∧ TkI l g B c n A bh er W' ∧ Below B W W':=by
 refine (row_in g B n c lo A l [] ld tw W h hc hm hb hBW hn (by simp)).mono ?_
 rintro e W' ⟨hb',(⟨er,h1,rfl,h2⟩ | ⟨ls,bh,tw',rfl,h1,h2,h3⟩ | ⟨ls,bh,p,rfl,h1,h2,h3,h4⟩)⟩
 · have:=h2 [] none
   rw [Pr.fin_nil] at this
   exact ⟨0,er,rfl,.inl ⟨h1,this⟩,hb'⟩
 · have:=h3 [] none
   rw [Pr.fin_nil] at this
   exact ⟨bh,0,rfl,.inr (.inl ⟨rfl,ls,tw',h1,h2,this⟩),hb'⟩
 · have:=h4 [] none
   rw [Pr.fin_nil] at this
   exact ⟨bh,0,rfl,.inr (.inr ⟨rfl,ls,p,h1,by omega,h3,this⟩),hb'⟩
theorem row_next (g B c lo n bh p : Nat) (A : Option Addr) (l : List UInt8) (ls : List (List UInt8)) (W : World) (h : RS W g B A l.length c (Nm.body ls) true (p : Nat)) (hc : l.length ≤ c) (hm : l.length ≤ 211106232532992) (hb : Bs W lo B A l) (hBW : B ≤ W.heap.size) (hp : p ≤ l.length)
 (hX : (Nm.body ls).length ≤ 254) (ht : Pr.tk l n n 1 = Pr.fin ls (some bh) (Pr.tk l p p (1 + (Nm.body ls).length))) :
 Calls Tryz.prog 169 #[.pointer (some ⟨g,0,none⟩),.int .i64 p] W fun e W' => ∃ (bh2 : Nat) (er : Int),e = .returned (.tuple #[.int .i64 bh2,.int .i64 er]) ∧ TkI l g B c n A bh er W' ∧ Below B W W' ∧ rdM g (.int .i64 er) W' < p + 1:=by
 refine (row_in g B p c lo A l (Nm.body ls) true p W h hc hm hb hBW hp hX).mono ?_
 rintro e W' ⟨hb',(⟨er,h1,rfl,h2⟩ | ⟨ls2,bh2,tw',rfl,h1,h2,h3⟩ | ⟨ls2,bh2,p2,rfl,h1,h2,h3,h4⟩)⟩
 · have:=h2 ls (some bh)
   rw [← ht] at this
   exact ⟨0,er,rfl,.inl ⟨h1,this⟩,hb',rdM_any h1⟩
 · have:=h3 ls (some bh)
   rw [← ht] at this
   rw [← Nm.body_append] at h1 h2
   refine ⟨bh2,0,rfl,.inr (.inl ⟨rfl,ls ++ ls2,tw',h1,h2,this⟩),hb',?_⟩
   obtain ⟨_,vL,k1,_⟩:=h1
   have c2 : W'.cell? ⟨g,2,none⟩ = some (.bool false):=by rw [k1.cell];rfl
   unfold rdM
   rw [c2]
   simp [intOf]
 · have:=h4 ls (some bh)
   rw [← ht] at this
   rw [← Nm.body_append] at h1 h3 this
   refine ⟨bh2,0,rfl,.inr (.inr ⟨rfl,ls ++ ls2,p2,h1,by omega,h3,this⟩),hb',?_⟩
   rw [rdM_rs h1]
   simp;omega
set_option maxHeartbeats 2000000 in
theorem prTake_in (A : Option Addr) (l : List UInt8) (c n : Nat) (w : World) (hc : l.length ≤ c) (hm : l.length ≤ 211106232532992) (lo : Nat) (hr : Bs w lo w.heap.size A l) (hn : n ≤ l.length) :
 Calls Tryz.prog 163 #[.slice A l.length c,.int .i64 n] w fun e w' => e = .returned (trV (Pr.tk l n n 1)) ∧ Below w.heap.size w w':=by
 have HR:=Lib.hid hr
 have hrs : RS (w.alloc (.cells #[.slice A l.length c,.slice none 0 0,.bool false,.int .i64 0] 232)) w.heap.size w.heap.size A l.length c [] false 0 :=
  ⟨Nat.le_refl _,.slice none 0 0,Has.fresh w _ _,World.ownsRow_nil _ _ _ _⟩
 have HF:=Lib.hid (row_first w.heap.size w.heap.size c lo n A l false 0 _ hrs hc hm (hr.alloc (Nat.le_refl _) _) (by simp) hn)
 clear hr hrs
 go_enter Tryz.func163,Tryz.ntmps163
 go_wp2_with (go_at_call 169;refine HF.out.mono ?_;rintro e w3 ⟨bh,er,rfl,hI3,hb3⟩)
 have hb03 : Below w.heap.size w w3:=((Below.refl _ w).alloc (Nat.le_refl _) _).trans hb3
 have HI3:=Lib.hid hI3
 have HB3:=Lib.hid hb03
 clear hI3 hb3 hb03 HF
 go_loopw [9] (fun s9 wr => ∃ er,s9 = .int .i64 er ∧ Hid (TkI l w.heap.size w.heap.size c n A bh er wr) ∧ Below w.heap.size w wr) (fun s9 wr=>rdM w.heap.size s9 wr)
 case atStart=>exact ⟨er,rfl,HI3.out,HB3.out⟩
 case round =>
  obtain ⟨er,rfl,HI,hbw⟩:=hrel
  have HW:=Lib.hid hbw
  have hbs:=hbw.size
  clear hbw
  rcases HI.out with ⟨h1,h2⟩ | ⟨rfl,ls,tw,h1,h2,h3⟩ | ⟨rfl,ls,p,h1,h2,h3,h4⟩
  · have hne : (er != 0) = true:=by simp [bne,h1]
    have H2:=Lib.hid h2
    clear h2 HI HI3 HB3
    go_wp2
    go_ret3
    exact ⟨by rw [H2.out];rfl,HW.out⟩
  · obtain ⟨hgB,vL,k1,k2⟩:=h1
    obtain ⟨aL,cL,rfl⟩:=own_form k2
    have c1 : wr.cell? ⟨w.heap.size,1,none⟩ = some (.slice aL (Nm.body ls).length cL):=by rw [k1.cell];rfl
    have c2 : wr.cell? ⟨w.heap.size,2,none⟩ = some (.bool false):=by rw [k1.cell];rfl
    have hcv:=run_convert_own wr 51 22 5 Tryz.underlying51 Tryz.underlying5 Tryz.underlying22 w.heap.size (Nm.body ls).length _ (Nm.body ls) k2
    have H3:=Lib.hid h3
    clear k1 k2 h3 HI HI3 HB3
    go_wp2
    go_ret3
    refine ⟨?_,HW.out⟩
    rw [H3.out]
    show Ending.returned (.tuple #[.string (⟨(Nm.body ls).toArray⟩ ++ ⟨#[0]⟩),.int .i64 bh,.int .i64 0]) = _
    rw [string_eq (s:=⟨(Nm.body ls).toArray⟩ ++ ⟨#[0]⟩) (l:=Nm.glue ls) (by rw [Nm.glue,ByteArray.data_append];simp)]
    rfl
  · have hmes:=rdM_rs h1
    have HN:=Lib.hid (row_next w.heap.size w.heap.size c lo n bh p A l ls wr h1 hc hm (HR.out.keep HW.out) hbs h2 h3 h4)
    obtain ⟨hgB,vL,k1,k2⟩:=h1
    have c2 : wr.cell? ⟨w.heap.size,2,none⟩ = some (.bool true):=by rw [k1.cell];rfl
    have c3 : wr.cell? ⟨w.heap.size,3,none⟩ = some (.int .i64 p):=by rw [k1.cell];rfl
    have HM:=Lib.hid hmes
    clear k1 k2 h4 HI HI3 HB3 hmes
    go_wp2_with (go_at_call 169;refine HN.out.mono ?_;rintro e w5 ⟨bh2,er2,rfl,hI5,hb5,hm5⟩)
    go_roundw
    case rel=>exact ⟨er2,rfl,hI5,HW.out.trans hb5⟩
    case measure=>rw [HM.out];exact hm5
theorem prTake_any (A : Option Addr) (l : List UInt8) (c : Nat) (z : Int) (w : World) (hc : l.length ≤ c) (hm : l.length ≤ 211106232532992) (lo : Nat) (hr : Bs w lo w.heap.size A l) :
 Calls Tryz.prog 163 #[.slice A l.length c,.int .i64 z] w fun e w' => e = .returned (prTakeV l z) ∧ Below w.heap.size w w':=by
 unfold prTakeV
 by_cases h0 : z < 0 ∨ (l.length : Int) < z
 · rw [if_pos h0]
   have HA:=Lib.hid (row_arg w.heap.size w.heap.size c lo A l [] false 0 z (w.alloc (.cells #[.slice A l.length c,.slice none 0 0,.bool false,.int .i64 0] 232)) ⟨Nat.le_refl _,.slice none 0 0,Has.fresh w _ _,World.ownsRow_nil _ _ _ _⟩ hc hm (hr.alloc (Nat.le_refl _) _) h0)
   clear hr h0
   go_enter Tryz.func163,Tryz.ntmps163
   go_wp2_with (go_at_call 169;refine HA.out.mono ?_;rintro e w3 ⟨rfl,rfl⟩)
   refine wp_loop_rounds 1 ?_
   rw [rounds_succ]
   go_wp2
   go_ret3
   exact ⟨rfl,(Below.refl _ w).alloc (Nat.le_refl _) _⟩
 · rw [if_neg h0]
   obtain ⟨n,rfl⟩ : ∃ n : Nat,z = n:=⟨z.toNat,by omega⟩
   exact prTake_in A l c n w hc hm lo hr (by omega)
end Go.Proofs.YtekafhogiambaaaGreatDoor
