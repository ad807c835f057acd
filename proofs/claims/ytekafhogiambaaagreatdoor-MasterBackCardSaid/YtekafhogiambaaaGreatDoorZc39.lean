/- Texts of the proofs, merged. -/
import Derived.Test.YtekafhogiambaaaGreatDoorZc10
import Derived.Test.YtekafhogiambaaaGreatDoorZc1
set_option maxRecDepth 100000
namespace Go.Proofs.YtekafhogiambaaaGreatDoor
open Go.RowKit
theorem tab4 {w : World} (h : LayD w) : w.cell? ⟨4,(285870213051353865 * 16 % 18446744073709551616) / 288230376151711744,none⟩ = some (.int .u8 4):=by
 obtain ⟨t,h⟩:=h
 rw [h.cell]
 rfl
theorem tz64_16 (w : World) (h : LayD w) : Calls Tryz.prog 132 #[.int .u64 16] w fun e w' => e = .returned (.int .i64 4) ∧ w = w':=by
 have h4:=tab4 h
 simp only [Nat.reduceMul,Nat.reduceMod,Nat.reduceDiv] at h4
 have e1 : IntKind.u64.wrap (-16) = 18446744073709551600:=by kernel_rfl
 have e2 : bits BinOp.and IntKind.u64 16 18446744073709551600 = 16:=by kernel_rfl
 have e3 : IntKind.u64.wrap 4573923408821661840 = 4573923408821661840:=by kernel_rfl
 clear h
 go_enter Tryz.func132,Tryz.ntmps132
 go_wp2
 go_ret
 exact ⟨rfl,rfl⟩
theorem tz_16 (w : World) (h : LayD w) : Calls Tryz.prog 107 #[.int .u64 16] w fun e w' => e = .returned (.int .i64 4) ∧ w = w':=by
 have H:=Lib.hid (tz64_16 w h)
 clear h
 go_enter Tryz.func107,Tryz.ntmps107
 go_wp2_with (go_at_call 132;refine H.out.mono ?_;rintro e w' ⟨rfl,rfl⟩)
 go_ret
 exact ⟨rfl,rfl⟩
theorem pow_16 (w : World) : Calls Tryz.prog 106 #[.int .i64 16] w fun e w' => e = .returned (.bool true) ∧ w = w':=by
 go_enter Tryz.func106,Tryz.ntmps106
 go_wp2
 go_ret
 exact ⟨rfl,rfl⟩
theorem dgAll : ∀ j : Fin 16,((⟨#[48,49,50,51,52,53,54,55,56,57,97,98,99,100,101,102,103,104,105,106,107,108,109,110,111,112,113,114,115,116,117,118,119,120,121,122]⟩ : ByteArray)[j.1]'(by show j.1 < 36;omega)) = Rd.hx j.1:=by decide
theorem dg36 (r : Nat) (h : r < 16) : ((⟨#[48,49,50,51,52,53,54,55,56,57,97,98,99,100,101,102,103,104,105,106,107,108,109,110,111,112,113,114,115,116,117,118,119,120,121,122]⟩ : ByteArray)[r]'(by show r < 36;omega)) = Rd.hx r:=dgAll ⟨r,h⟩
def r65 (out : List UInt8) : Array Value:=(List.replicate (65 - out.length) (Value.int .u8 0) ++ bv out).toArray
theorem r65_nil : Tryz.zeroCells164 = r65 []:=by kernel_rfl
theorem r65_set (out : List UInt8) (c : UInt8) {n : Nat} (hn : n + 1 + out.length = 65) : (r65 out).setIfInBounds n (.int .u8 (c.toNat : Int)) = r65 (c :: out):=by
 unfold r65
 rw [List.setIfInBounds_toArray,show 65 - out.length = n + 1 by omega,show 65 - (c :: out).length = n by rw [List.length_cons];omega,List.set_append_left _ _ (by simp),List.replicate_succ',List.set_append_right _ _ (by simp)]
 simp [bv]
theorem r65_at (out : List UInt8) {n : Nat} (hn : n + 1 + out.length = 65) : (r65 out)[n]? = some (.int .u8 0):=by
 unfold r65
 rw [List.getElem?_toArray,List.getElem?_append_left (by simp;omega),List.getElem?_replicate,if_pos (by omega)]
theorem r65_tail (out : List UInt8) {n : Nat} (hn : n + out.length = 65) (j : Nat) (hj : j < out.length) : (r65 out)[n + j]? = some (.int .u8 (out[j].toNat : Int)):=by
 unfold r65
 rw [List.getElem?_toArray,List.getElem?_append_right (by simp;omega),List.length_replicate,show n + j - (65 - out.length) = j by omega]
 exact bv_get out j hj
theorem and15 (v : Nat) (hv : v ≤ 65535) : bits BinOp.and IntKind.u64 (v : Int) 15 = ((v % 16 : Nat) : Int):=by
 have h:=bits_mask .u64 63 (by decide) (fun n h0 h1=>by rw [IntKind.wrap_u64];omega) 4 (by decide) (v : Int) (by omega) (by omega)
 have e : ((2 : Int) ^ 4 - 1) = 15:=by decide
 have e2 : ((2 : Int) ^ 4) = 16:=by decide
 rw [e,e2] at h
 rw [h]
 omega
set_option maxHeartbeats 2000000 in
theorem fmtBits_16 (u : Nat) (w : World) (hu : u ≤ 65535) (hL : LayD w) :
 Calls Tryz.prog 86 #[.slice none 0 0,.int .u64 u,.int .i64 16,.bool false,.bool false] w fun e w' => e = .returned (.tuple #[.slice none 0 0,sv (Rd.hex u)]) ∧ Below w.heap.size w w':=by
 have HTZ:=Lib.hid (fun (W : World) (hb : Below w.heap.size w W)=>tz_16 W (hL.below hb (Nat.le_refl _)))
 clear hL
 go_enter Tryz.func86,Tryz.ntmps86
 go_wp2_with (first
  | (go_at_call 106;refine (pow_16 _).mono ?_;rintro e w2 ⟨rfl,rfl⟩)
  | (go_at_call 107;refine (HTZ.out _ ((Below.refl _ _).alloc (Nat.le_refl _) _)).mono ?_;rintro e w3 ⟨rfl,rfl⟩))
 have H0 : Hid (Has (w.alloc (.cells Tryz.zeroCells164 164)) w.heap.size 164 (r65 [])):=by rw [← r65_nil];exact Has.fresh w _ _
 have HB0 : Hid (Below w.heap.size w (w.alloc (.cells Tryz.zeroCells164 164))):=(Below.refl _ _).alloc (Nat.le_refl _) _
 go_loopw [1,13] (fun uu ii wr => ∃ (v n : Nat) (out : List UInt8),uu = .int .u64 v ∧ ii = .int .i64 n ∧ n + out.length = 65 ∧ ((out.length = 0 ∧ v ≤ 65535) ∨ (out.length = 1 ∧ v ≤ 4095) ∨ (out.length = 2 ∧ v ≤ 255) ∨ (out.length = 3 ∧ v ≤ 15)) ∧ Hid (Rd.hex u = Rd.hex v ++ out) ∧ Hid (Has wr w.heap.size 164 (r65 out)) ∧ Hid (Below w.heap.size w wr)) (fun uu _ _=>(intOf uu).toNat)
 case atStart=>exact ⟨u,65, [],rfl,rfl,rfl,.inl ⟨rfl,hu⟩,by rw [Hid,List.append_nil],H0,HB0⟩
 case round =>
  obtain ⟨v,n,out,rfl,rfl,hn,hv,HX,HH,HB⟩:=hrel
  by_cases h16 : 16 ≤ v
  · have hk : out.length ≤ 2:=by omega
    obtain ⟨m,rfl⟩ : ∃ m,n = m + 1:=⟨n - 1,by omega⟩
    have cm : wr.cell? ⟨w.heap.size,m,none⟩ = some (.int .u8 0):=by rw [HH.out.cell];exact r65_at out hn
    have fm:=HH.out.free m
    have hm65 : (m : Int) < 65:=by omega
    have hm0 : (0 : Int) ≤ (m : Int):=by omega
    have hr : v % 16 < 16:=by omega
    have han : bits BinOp.and IntKind.u64 (v : Int) 15 = ((v % 16 : Nat) : Int):=and15 v (by omega)
    have HR:=Lib.hid hr
    obtain ⟨r,hr2⟩ : ∃ r,v % 16 = r:=⟨_,rfl⟩
    rw [hr2] at han hr
    have hdg:=dg36 r hr
    have HX2 : Hid (Rd.hex u = Rd.hex (v / 16) ++ Rd.hx r :: out):=by rw [Hid,HX.out,Rd.hex_more (by omega),hr2,List.append_assoc];rfl
    have HS:=Lib.hid (r65_set out (Rd.hx r) (n:=m) hn)
    clear hr2
    go_wp2
    go_roundw
    case rel=>exact ⟨v / 16,m,Rd.hx r :: out,by go_num,rfl,by rw [List.length_cons];omega,by rw [List.length_cons];omega,HX2,by rw [← HS.out];exact HH.out.set _ _,HB.out.setCell (by simp) _⟩
    case measure=>simp [intOf];omega
  · obtain ⟨m,rfl⟩ : ∃ m,n = m + 1:=⟨n - 1,by omega⟩
    have cm : wr.cell? ⟨w.heap.size,m,none⟩ = some (.int .u8 0):=by rw [HH.out.cell];exact r65_at out hn
    have fm:=HH.out.free m
    have hm65 : (m : Int) < 65:=by omega
    have hm0 : (0 : Int) ≤ (m : Int):=by omega
    have hv16 : v < 16:=by omega
    have hdg:=dg36 v hv16
    have HX2 : Hid (Rd.hex u = Rd.hx v :: out):=by rw [Hid,HX.out,Rd.hex_small hv16];rfl
    have hH2 : Has (wr.setCell ⟨w.heap.size,m,none⟩ (.int .u8 ((Rd.hx v).toNat : Int))) w.heap.size 164 (r65 (Rd.hx v :: out)):=by rw [← r65_set out (Rd.hx v) hn];exact HH.out.set _ _
    have hcv:=run_convert_bs (w:=wr.setCell ⟨w.heap.size,m,none⟩ (.int .u8 ((Rd.hx v).toNat : Int))) (P:=Tryz.prog) 51 9 5 Tryz.underlying51 Tryz.underlying5 Tryz.underlying9 0 (w.heap.size + 1) (some ⟨w.heap.size,m,none⟩) (65 - m) (65 - m) (Rd.hx v :: out) (by rw [List.length_cons];omega) (fun _=>⟨w.heap.size,m,rfl,Nat.zero_le _,by omega,fun j hj=>by rw [hH2.cell];exact r65_tail (Rd.hx v :: out) (by rw [List.length_cons];omega) j hj⟩)
    have hal : Tryz.prog.arrayLen 164 = 65:=by kernel_rfl
    have hsl1 : ∀ W,(Instr.sliceAt 164 (.pointer (some ⟨w.heap.size,0,none⟩)) (some (.int .i64 (m : Int))) none none).run Tryz.prog W = .ok (.slice (some ⟨w.heap.size,m,none⟩) (65 - m) (65 - m)) W:=fun W=>by
     rw [run_sliceAt_array_l W 164 ⟨w.heap.size,0,none⟩ (by kernel_rfl) .i64 (m : Int) (by omega) (by rw [hal];omega),hal]
     go_simp
     omega
    clear hH2 hal
    go_wp2
    go_ret2
    exact ⟨by rw [HX2.out];rfl,HB.out.setCell (by simp) _⟩
theorem ifmt_16 (u : Nat) (w : World) (hu : u ≤ 65535) (hL : LayD w) :
 Calls Tryz.prog 58 #[.int .u64 u,.int .i64 16] w fun e w' => e = .returned (sv (Rd.hex u)) ∧ Below w.heap.size w w':=by
 have H:=Lib.hid (fmtBits_16 u w hu hL)
 clear hL
 go_enter Tryz.func58,Tryz.ntmps58
 go_wp2_with (go_at_call 86;refine H.out.mono ?_;rintro e w2 ⟨rfl,B2⟩)
 go_ret
 exact ⟨rfl,B2⟩
theorem fmt_16 (u : Nat) (w : World) (hu : u ≤ 65535) (hL : LayA w) :
 Calls Tryz.prog 34 #[.int .u64 u,.int .i64 16] w fun e w' => e = .returned (sv (Rd.hex u)) ∧ Below w.heap.size w w':=by
 have H:=Lib.hid (ifmt_16 u w hu hL.2.2)
 clear hL
 go_enter Tryz.func34,Tryz.ntmps34
 go_wp2_with (go_at_call 58;refine H.out.mono ?_;rintro e w2 ⟨rfl,B2⟩)
 go_ret
 exact ⟨rfl,B2⟩
end Go.Proofs.YtekafhogiambaaaGreatDoor
