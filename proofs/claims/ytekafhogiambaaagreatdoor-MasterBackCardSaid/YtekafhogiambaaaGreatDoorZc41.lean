/- Texts of the proofs, merged. -/
import Derived.Test.YtekafhogiambaaaGreatDoorZc40
import Derived.Test.YtekafhogiambaaaGreatDoorZc2
import Derived.Test.YtekafhogiambaaaGreatDoorZc24
import Derived.Test.YtekafhogiambaaaGreatDoorZc12
import Derived.Test.YtekafhogiambaaaGreatDoorZc11
import Derived.Test.YtekafhogiambaaaGreatDoorZc9
import Derived.Deep.LoopGhost
import Derived.Deep.RegionHeld3
import Derived.Test.YtekafhogiambaaaGreatDoorZc4
import Derived.BigQuiet
import Derived.Deep.MidRow
import Derived.Test.YtekafhogiambaaaGreatDoorZc3
import Derived.Test.YtekafhogiambaaaGreatDoorZc21
import Derived.Test.YtekafhogiambaaaGreatDoorZc37
set_option maxRecDepth 100000
namespace Go.Proofs.YtekafhogiambaaaGreatDoor
open Go.RowKit
theorem text_few (l : List UInt8) : (Nm.text l).length ≤ 40000:=by
 unfold Nm.text
 cases hs : Nm.split l with
 | none=>simp
 | some ls =>
  obtain ⟨e1,e2,e3⟩:=Nm.split_some.1 hs
  have h1:=textL_len ls e2
  have h2:=Nm.good_count e2
  have h3:=Nm.glue_length ls
  rw [e1] at e3
  cases ls with
  | nil=>simp
  | cons a r =>
   show (Nm.textL (a :: r)).length ≤ 40000
   omega
def shX (d : Dv) (ls : List (List UInt8)) (p : Nat) : List (List UInt8) :=
 if p = 1 then [Rd.showA d.raw.data.toList] else if p = 2 then [(Rd.pairs d.raw.data.toList 8).drop 1] else if p = 3 then ls.map qw else if p = 4 then cw d.raw.data.toList else []
def shS (t : Nat) (d : Dv) (ls : List (List UInt8)) : List UInt8 :=
 if t = 1 then Rd.showA d.raw.data.toList else if t = 28 then (Rd.pairs d.raw.data.toList 8).drop 1 else if t = 16 then (Rd.quoted (Nm.esc true) ls).drop 1
 else if t = 6 then ((((([] ++ [32]) ++ Nm.text d.host.data.toList) ++ [32]) ++ Nm.text d.mail.data.toList) ++ Rd.numw d 5).drop 1
 else if Rd.isHost t then (Rd.numw d (Rd.cnt t) ++ 32 :: Nm.text d.host.data.toList).drop 1 else Rd.showHex d.raw.data.toList
theorem join_sp (ws : List (List UInt8)) : Lib.join ws [32] = (ws.flatMap fun x=>32 :: x).drop 1:=by
 have:=Rd.join_flat (fun x : List UInt8=>x) 32 ws
 rw [List.map_id'] at this
 exact this
theorem sh_eq (d : Dv) (ls : List (List UInt8)) (t : Nat) : Lib.join (Rd.wds d.dt (shX d ls) (Rd.parts t)).1 [32] = shS t d ls:=by
 rw [join_sp]
 refine Rd.by_type (P:=fun t=>((Rd.wds d.dt (shX d ls) (Rd.parts t)).1.flatMap fun x=>32 :: x).drop 1 = shS t d ls) ?_ ?_ ?_ ?_ ?_ ?_ ?_ ?_ ?_ (fun t a b c e f g h i j=>?_) t
 case refine_10 =>
  have e1 : Rd.isHost t = false:=by simp [Rd.isHost, *]
  rw [Rd.parts_other a b c e f g h i j]
  unfold shS
  rw [if_neg a,if_neg i,if_neg h,if_neg e,e1,if_neg (by simp)]
  simp only [Rd.wds,Rd.pcs,shX,cw,Rd.showHex,List.foldl_cons,List.foldl_nil]
  by_cases h0 : d.raw.data.toList = [] <;> simp [h0]
 all_goals simp [Rd.wds,Rd.pcs,Rd.parts,shX,shS,Rd.isHost,Rd.cnt,Rd.numw,Rd.hasN,Dv.dt,Dv.n,List.range_succ,Rd.quoted,qw,List.flatMap_map]
theorem flat_len {α : Type} (f : α → List UInt8) (m : Nat) (h : ∀ x,(f x).length ≤ m) (l : List α) : (l.flatMap f).length ≤ l.length * m:=by
 induction l with
 | nil=>simp
 | cons a r ih =>
  have:=h a
  rw [List.flatMap_cons,List.length_append,List.length_cons,Nat.succ_mul]
  omega
theorem pcs_words {d : Dv} {ls : List (List UInt8)} {n p : Nat} (hf : d.fits) (hraw : d.raw.size ≤ 65535) (hls : ∀ x ∈ ls,x.length ≤ 65535) (hn : n < 5 ∨ ¬ (p = 8 ∨ p = 9)) : ∀ x ∈ Rd.pcs d.dt (shX d ls) n p,x.length ≤ 20000000:=by
 have hl : d.raw.data.toList.length = d.raw.size:=by simp
 unfold Rd.pcs
 intro x hx
 split at hx
 · unfold shX at hx
   split at hx
   · rw [List.mem_singleton.1 hx]
     unfold Rd.showA
     have:=flat_len (fun c : UInt8=>46 :: Rd.dec c.toNat) 257 (fun c=>by have:=Rd.dec_byte c;simp;omega) d.raw.data.toList
     rw [List.length_drop]
     omega
   · split at hx
     · rw [List.mem_singleton.1 hx,← Rd.gw_join]
       have:=join_len (s := [58]) (Rd.gw d.raw.data.toList 8) (Rd.gw_len _ 8)
       have e : (Rd.gw d.raw.data.toList 8).length = 8:=by simp [Rd.gw]
       rw [e,show ([58] : List UInt8).length = 1 from rfl] at this
       omega
     · split at hx
       · obtain ⟨y,hy,rfl⟩:=List.mem_map.1 hx
         have h1:=hls y hy
         have h2:=Nm.esc_len true y
         unfold qw
         simp
         omega
       · split at hx
         · unfold cw at hx
           have h2:=Rd.dec_len d.raw.data.toList.length
           have h3:=hex2_len d.raw.data.toList
           rcases List.mem_cons.1 hx with rfl | hx
           · simp
           rcases List.mem_cons.1 hx with rfl | hx
           · omega
           split at hx
           · cases hx
           · rw [List.mem_singleton.1 hx];omega
         · cases hx
 · split at hx
   · rw [List.mem_singleton.1 hx];have:=text_few d.dt.host;omega
   · split at hx
     · rw [List.mem_singleton.1 hx];have:=text_few d.dt.mail;omega
     · split at hx
       · rename_i h89
         rw [List.mem_singleton.1 hx]
         have h5 : n < 5:=hn.resolve_right (fun h=>h h89)
         rw [rd_hasN2 d h5]
         have:=Rd.dec_len2 _ (hf n)
         omega
       · cases hx
theorem wds_words {d : Dv} {ls : List (List UInt8)} (t : Nat) (hf : d.fits) (hraw : d.raw.size ≤ 65535) (hls : ∀ x ∈ ls,x.length ≤ 65535) : ∀ x ∈ (Rd.wds d.dt (shX d ls) (Rd.parts t)).1,x.length ≤ 20000000:=by
 suffices H : ∀ k,k ≤ (Rd.parts t).length → ∀ x ∈ (Rd.wds d.dt (shX d ls) ((Rd.parts t).take k)).1,x.length ≤ 20000000 by
  have:=H _ (Nat.le_refl _)
  rw [List.take_length] at this
  exact this
 intro k
 induction k with
 | zero=>intro _ x hx;simp [Rd.wds] at hx
 | succ k ih =>
  intro hk x hx
  have hkl : k < (Rd.parts t).length:=by omega
  have hn5 : Rd.nums ((Rd.parts t).take (k + 1)) ≤ 5:=Rd.nums_le
  rw [List.take_succ_eq_append_getElem hkl] at hx hn5
  rw [Rd.wds_snoc,List.mem_append] at hx
  rw [Rd.nums_snoc] at hn5
  rcases hx with hx | hx
  · exact ih (by omega) x hx
  · refine pcs_words hf hraw hls ?_ x hx
    by_cases h : (Rd.parts t)[k] = 8 ∨ (Rd.parts t)[k] = 9
    · rw [if_pos h] at hn5
      exact .inl (by omega)
    · exact .inr h
theorem fit_of {t p : Nat} {d : Dv} (hok : Rd.ok t d.dt = true) (hp : p ∈ Rd.parts t) : ∃ n,Rd.fit p d.dt n = true:=by
 have hfa : Rd.fitAll d.dt (Rd.parts t) 0 = true:=by
  rw [Rd.ok_parts,Bool.and_eq_true] at hok
  exact hok.1
 obtain ⟨k,hk,rfl⟩:=List.mem_iff_getElem.1 hp
 exact ⟨_,fitAll_at hfa hk⟩
def txs (d : Dv) : List (List UInt8):=(Rd.tx d.raw.data.toList).getD []
theorem txs_le (d : Dv) : (txs d).length ≤ d.raw.size ∧ ∀ x ∈ txs d,x.length ≤ d.raw.size:=by
 have hl : d.raw.data.toList.length = d.raw.size:=by simp
 unfold txs
 cases h : Rd.tx d.raw.data.toList with
 | none=>exact ⟨Nat.zero_le _,fun x hx=>by cases hx⟩
 | some ls=>exact ⟨by have:=Rd.tx_len h;simp;omega,fun x hx=>by have:=tx_le _ _ _ (Nat.le_refl _) h x hx;omega⟩
theorem fit3 {d : Dv} {n : Nat} (h : Rd.fit 3 d.dt n = true) : Rd.tx d.raw.data.toList = some (txs d) ∧ txs d ≠ []:=by
 unfold Rd.fit at h
 rw [if_neg (by omega),if_neg (by omega),if_pos rfl,show d.dt.raw = d.raw.data.toList from rfl] at h
 unfold txs
 split at h
 · rename_i hx
   rw [hx]
   exact ⟨rfl,by simp⟩
 · cases h
set_option maxHeartbeats 1000000 in
theorem pdShow_ok (t : Nat) (d : Dv) (w : World) (ht : t ≤ 65535) (hL : LayA w) (hf : d.fits) (hr0 : d.raw.size ≤ 8796093022208) (hh : d.host.size ≤ 140737488355328) (hm : d.mail.size ≤ 140737488355328) (hok : Rd.ok t d.dt = true) :
 Calls Tryz.prog 32 #[.int .u16 t,d.val] w fun e W' => e = .returned (.tuple #[sv (shS t d (txs d)),.int .i64 0]) ∧ Below w.heap.size w W':=by
 have hrl : d.dt.raw.length = d.raw.size:=by simp [Dv.dt]
 have hraw:=ok_raw hok
 obtain ⟨q1,q2⟩:=txs_le d
 have hw:=wds_words (ls:=txs d) t hf (by omega) (fun x hx=>by have:=q2 x hx;omega)
 have hXl : ∀ p,(shX d (txs d) p).length ≤ 100000:=fun p=>by
  unfold shX
  split
  · simp
  split
  · simp
  split
  · rw [List.length_map];omega
  split
  · unfold cw;split <;> simp
  · simp
 have hcnt:=wds_len (d:=d.dt) hXl t 7
 rw [List.take_of_length_le (by rw [Rd.parts_len];omega)] at hcnt
 have hjl:=join_len (s := [32]) _ hw
 rw [show ([32] : List UInt8).length = 1 from rfl] at hjl
 have hmul:=Nat.mul_le_mul_right (20000000 + 1) hcnt
 have hne : (Rd.wds d.dt (shX d (txs d)) (Rd.parts t)).1 ≠ []:=by
  have h3 : 3 ∈ Rd.parts t → txs d ≠ []:=fun h=>(fit3 (fit_of hok h).choose_spec).2
  revert h3
  refine Rd.by_type (P:=fun t=>(3 ∈ Rd.parts t → txs d ≠ []) → (Rd.wds d.dt (shX d (txs d)) (Rd.parts t)).1 ≠ []) ?_ ?_ ?_ ?_ ?_ ?_ ?_ ?_ ?_ (fun t a b c e f g h i j=>?_) t
  case refine_10=>rw [Rd.parts_other a b c e f g h i j];intro _;simp [Rd.wds,Rd.pcs,shX,cw]
  all_goals simp [Rd.wds,Rd.pcs,Rd.parts,shX]
 have hck : ∀ W : World,LayR W → Calls Tryz.prog 27 #[.int .u16 t,.agg d.cells] W fun e w' => e = .returned (.int .i64 0) ∧ Below W.heap.size W w':=fun W hW=>by
  have:=pdCheck_any t d W ht hW hf hr0 hh hm
  rw [hok] at this
  exact this
 have:=pdShow_loop t d (shX d (txs d)) w ht hL hf hh hm hck
  (fun h=>⟨_,rfl,by
   obtain ⟨n,hn⟩:=fit_of hok h
   have h4 : d.raw.size = 4:=by rw [← hrl];simpa [Rd.fit] using hn
   have:=dotted_any d.raw (by omega) (by omega)
   rw [Rd.nms_show] at this
   exact this⟩)
  (fun h=>⟨_,rfl,by
   obtain ⟨n,hn⟩:=fit_of hok h
   have h4 : d.raw.size = 16:=by rw [← hrl];simpa [Rd.fit] using hn
   exact grouped_any d.raw h4 fmt_16⟩)
  (fun h=>by
   obtain ⟨n,hn⟩:=fit_of hok h
   obtain ⟨e1,e2⟩:=fit3 hn
   exact quoted_any d.raw (txs d) (by omega) e1 e2)
  (fun _=>counted_any d.raw (by omega)) hXl hne (by omega)
 rw [sh_eq] at this
 exact this
theorem pdShow_no (t : Nat) (d : Dv) (w : World) (hL : LayR w) (hck : ∀ W : World,LayR W → Calls Tryz.prog 27 #[.int .u16 t,.agg d.cells] W fun e w' => e = .returned (.int .i64 40) ∧ Below W.heap.size W w') :
 Calls Tryz.prog 32 #[.int .u16 t,d.val] w fun e w' => e = .returned (.tuple #[.string ⟨#[]⟩,.int .i64 40]) ∧ Below w.heap.size w w':=by
 have HB0 : Hid (Below w.heap.size w (w.alloc (.cells d.cells 37))):=(Below.refl _ w).alloc (Nat.le_refl _) _
 have HCK:=Lib.hid (hck _ (hL.below HB0.out (Nat.le_refl _)))
 clear hck hL
 unfold Dv.val
 unfold Dv.cells at HB0 HCK
 go_enter Tryz.func32,Tryz.ntmps32
 go_wp2_with (go_at_call 27;refine HCK.out.mono ?_;rintro e' w1 ⟨rfl,B1⟩;have HB1:=Lib.hid (HB0.out.trans (B1.mono HB0.out.size));clear B1)
 go_ret2
 exact ⟨rfl,HB1.out⟩
def shV (t : Nat) (d : Dv) : Value:=if Rd.ok t d.dt then .tuple #[sv (shS t d (txs d)),.int .i64 0] else .tuple #[.string ⟨#[]⟩,.int .i64 40]
theorem pdShow_any (t : Nat) (d : Dv) (w : World) (ht : t ≤ 65535) (hL : LayA w) (hf : d.fits) (hr0 : d.raw.size ≤ 8796093022208) (hh : d.host.size ≤ 140737488355328) (hm : d.mail.size ≤ 140737488355328) :
 Calls Tryz.prog 32 #[.int .u16 t,d.val] w fun e W' => e = .returned (shV t d) ∧ Below w.heap.size w W':=by
 unfold shV
 cases hok : Rd.ok t d.dt with
 | true=>exact pdShow_ok t d w ht hL hf hr0 hh hm hok
 | false =>
  refine pdShow_no t d w hL.1 fun W hW=>?_
  have:=pdCheck_any t d W ht hW hf hr0 hh hm
  rw [hok] at this
  exact this
end Go.Proofs.YtekafhogiambaaaGreatDoor
namespace Go.Proofs.YtekafhogiambaaaGreatDoor
theorem Rd.joinB_drop (b : UInt8) : ∀ ps : List (List UInt8),Rd.joinB b ps = (ps.flatMap fun x=>b :: x).drop 1
 | []=>rfl
 | [p]=>by simp [Rd.joinB]
 | p :: q :: r=>by
  rw [Rd.joinB,Rd.joinB_drop b (q :: r)]
  simp
theorem pcs_tell (d : Dv) (ls : List (List UInt8)) (n p : Nat) : Rd.pcs d.dt (shX d ls) n p = (Rd.pcsQ d.dt ls n p).map Rd.wdB:=by
 have er : d.dt.raw = d.raw.data.toList:=rfl
 unfold Rd.pcs Rd.pcsQ shX
 by_cases h1 : p = 1
 · subst h1
   simp [Rd.wdB,Rd.showA,Rd.joinB_drop,List.flatMap_map,er]
 by_cases h2 : p = 2
 · subst h2
   simp [Rd.wdB,Rd.pairs,Rd.joinB_drop,List.flatMap_map,er,Rd.pair,Rd.grp]
 by_cases h3 : p = 3
 · subst h3
   simp [Rd.wdB,qw]
 by_cases h4 : p = 4
 · subst h4
   have e2 : Rd.hex2 = Rd.two:=rfl
   by_cases h0 : d.raw.data.toList = []
   · simp [Rd.wdB,cw,er,h0]
   · simp [Rd.wdB,cw,er,h0,e2]
 rw [if_neg (by omega),if_neg h1,if_neg h2,if_neg h3,if_neg h4]
 by_cases h5 : p = 5 ∨ p = 6
 · rw [if_pos h5,if_pos h5];rfl
 rw [if_neg h5,if_neg h5]
 by_cases h7 : p = 7
 · rw [if_pos h7,if_pos h7];rfl
 rw [if_neg h7,if_neg h7]
 by_cases h8 : p = 8 ∨ p = 9
 · rw [if_pos h8,if_pos h8];rfl
 · rw [if_neg h8,if_neg h8];rfl
theorem wds_tell (d : Dv) (ls : List (List UInt8)) (ps : List Nat) : (Rd.wds d.dt (shX d ls) ps).1 = (Rd.tellQ d.dt ls ps 0).map Rd.wdB:=by
 unfold Rd.wds
 suffices H : ∀ (ps : List Nat) (s : List (List UInt8) × Nat),(ps.foldl (fun s p=>(s.1 ++ Rd.pcs d.dt (shX d ls) s.2 p,s.2 + if p = 8 ∨ p = 9 then 1 else 0)) s).1 = s.1 ++ (Rd.tellQ d.dt ls ps s.2).map Rd.wdB from by rw [H];rfl
 intro ps
 induction ps with
 | nil=>intro s;simp [Rd.tellQ]
 | cons p r ih =>
  intro s
  rw [List.foldl_cons,ih,Rd.tellQ,List.map_append,pcs_tell,List.append_assoc]
end Go.Proofs.YtekafhogiambaaaGreatDoor
namespace Go.Proofs.YtekafhogiambaaaGreatDoor
theorem Nm.small_low (c : UInt8) : ((Nm.small c).toNat = 0 ↔ c.toNat = 0) ∧ (63 < (Nm.small c).toNat ↔ 63 < c.toNat) ∧ (c.toNat ≤ 63 → Nm.small c = c):=by
 have hv:=Nm.small_val c
 by_cases h : 65 ≤ c.toNat ∧ c.toNat ≤ 90
 · rw [if_pos h] at hv
   refine ⟨by omega,by omega,fun hc=>by omega⟩
 · rw [if_neg h] at hv
   exact ⟨by omega,by omega,fun _=>UInt8.toNat_inj.1 hv⟩
theorem Nm.sp_foldS : ∀ (n : Nat) (l : Nm.By),l.length ≤ n → (Nm.sp (Nm.fold l)).isSome = (Nm.sp l).isSome:=by
 intro n
 induction n with
 | zero =>
  intro l hn
  have : l = []:=List.eq_nil_of_length_eq_zero (by omega)
  subst this
  rfl
 | succ n ih =>
  intro l hn
  cases l with
  | nil=>rfl
  | cons k t =>
   have hf : Nm.fold (k :: t) = Nm.small k :: Nm.fold t:=rfl
   obtain ⟨z,b,e⟩:=Nm.small_low k
   have hlt : (Nm.fold t).length = t.length:=Nm.fold_length t
   rw [hf]
   by_cases h0 : k.toNat = 0
   · rw [Nm.sp_zero h0,Nm.sp_zero (z.2 h0),hlt]
   · by_cases hb : 63 < k.toNat ∨ t.length < k.toNat
     · rw [Nm.sp_bad h0 hb]
       rcases hb with hb | hb
       · rw [Nm.sp_bad (fun h=>h0 (z.1 h)) (Or.inl (b.2 hb))]
       · by_cases h63 : 63 < k.toNat
         · rw [Nm.sp_bad (fun h=>h0 (z.1 h)) (Or.inl (b.2 h63))]
         · rw [e (by omega),Nm.sp_bad h0 (Or.inr (by omega))]
     · rw [e (by omega),Nm.sp_cons h0 (by omega) (by omega),Nm.sp_cons h0 (by omega) (by omega)]
       have hd : (Nm.fold t).drop k.toNat = Nm.fold (t.drop k.toNat):=by simp [Nm.fold,List.map_drop]
       rw [hd]
       have:=ih (t.drop k.toNat) (by simp only [List.length_drop];simp only [List.length_cons] at hn;omega)
       simpa only [Option.isSome_map] using this
theorem Nm.split_foldS (l : Nm.By) : (Nm.split (Nm.fold l)).isSome = (Nm.split l).isSome:=by
 have hl:=Nm.fold_length l
 by_cases h : 255 < l.length
 · rw [Nm.split_long h,Nm.split_long (by omega)]
 · rw [Nm.split_of_sp (by omega),Nm.split_of_sp (by omega)]
   exact Nm.sp_foldS l.length l (Nat.le_refl _)
theorem Rd.nm_fold (s : Nm.By) : Rd.nm (Nm.fold s) = Rd.nm s:=Nm.split_foldS s
theorem Rd.ok_fold (t : Nat) (d : Dv) : Rd.ok t (d.fold t).dt = Rd.ok t d.dt:=by
 unfold Dv.fold Dv.dt Rd.ok
 dsimp only
 cases hh : Rd.isHost t <;> cases hm : Rd.isMail t <;> simp [Rd.nm_fold]
namespace Mp
def okL (r : Rv) : Nat:=if Rd.nm r.nm.data.toList then (if r.cl = 1 then (if r.ttl ≤ 2147483647 then (if Rd.ok r.ty r.d.dt then 0 else 40) else 91) else 92) else 90
def bad : List Rv → Nat
 | []=>0
 | r :: l=>if okL r = 0 then bad l else okL r
theorem okL_zero {r : Rv} (h : okL r = 0) : Rd.nm r.nm.data.toList = true ∧ r.cl = 1 ∧ r.ttl ≤ 2147483647 ∧ Rd.ok r.ty r.d.dt = true:=by
 unfold okL at h
 repeat' split at h
 all_goals first | omega | (refine ⟨?_,?_,?_,?_⟩ <;> assumption)
theorem bad_snoc (l : List Rv) (r : Rv) (h : bad l = 0) : bad (l ++ [r]) = okL r:=by
 induction l with
 | nil=>unfold bad;by_cases e : okL r = 0 <;> simp [bad,e]
 | cons x l ih =>
  rw [bad] at h
  by_cases e : okL x = 0
  · rw [if_pos e] at h
    rw [List.cons_append,bad,if_pos e,ih h]
  · rw [if_neg e] at h
    exact absurd h e
theorem bad_app (l m : List Rv) (h : bad l ≠ 0) : bad (l ++ m) = bad l:=by
 induction l with
 | nil=>exact absurd rfl h
 | cons x l ih =>
  rw [bad] at h
  by_cases e : okL x = 0
  · rw [if_pos e] at h
    rw [List.cons_append,bad,if_pos e,bad,if_pos e,ih h]
  · rw [List.cons_append,bad,if_neg e,bad,if_neg e]
end Mp
end Go.Proofs.YtekafhogiambaaaGreatDoor
namespace Go.Proofs.YtekafhogiambaaaGreatDoor
open Go.RowKit
theorem Has.drewN {w : World} {g : Nat} {t : TypeId} {cs : Array Value} (h : Has w g t cs) (n : Nat) : Has (w.drewN n) g t cs:=h
end Go.Proofs.YtekafhogiambaaaGreatDoor
namespace Go.Proofs.YtekafhogiambaaaGreatDoor
open Go.RowKit
def Rv.fold (r : Rv) : Rv:={ r with nm:=⟨(Nm.fold r.nm.data.toList).toArray⟩,d:=r.d.fold r.ty }
def Rv.nums (r : Rv) : Prop:=r.ty ≤ 65535 ∧ r.cl ≤ 65535
theorem rv_nm {W : World} {g : Nat} {r : Rv} {t : TypeId} (h : Has W g t r.cells) : W.cell? ⟨g,0,none⟩ = some (.string r.nm):=by rw [h.cell];rfl
theorem rv_ty {W : World} {g : Nat} {r : Rv} {t : TypeId} (h : Has W g t r.cells) : W.cell? ⟨g,1,none⟩ = some (.int .u16 r.ty):=by rw [h.cell];rfl
theorem rv_ttl {W : World} {g : Nat} {r : Rv} {t : TypeId} (h : Has W g t r.cells) : W.cell? ⟨g,3,none⟩ = some (.int .u32 r.ttl):=by rw [h.cell];rfl
theorem rv_data {W : World} {g : Nat} {r : Rv} {t : TypeId} (h : Has W g t r.cells) : W.rangeAt g 4 r.d.cells.toList:=fun j v hj=>by
 rw [h.cell]
 have hl : j < 8:=(List.getElem?_eq_some_iff.1 hj).1
 rw [← hj]
 rcases (by omega : j = 0 ∨ j = 1 ∨ j = 2 ∨ j = 3 ∨ j = 4 ∨ j = 5 ∨ j = 6 ∨ j = 7) with rfl | rfl | rfl | rfl | rfl | rfl | rfl | rfl <;> rfl
theorem rv_there {W : World} {g : Nat} {r : Rv} {t : TypeId} (h : Has W g t r.cells) : W.there g 4 8:=fun j hj=>by
 refine ⟨?_,h.free _⟩
 rw [h.cell]
 rcases (by omega : j = 0 ∨ j = 1 ∨ j = 2 ∨ j = 3 ∨ j = 4 ∨ j = 5 ∨ j = 6 ∨ j = 7) with rfl | rfl | rfl | rfl | rfl | rfl | rfl | rfl <;> rfl
theorem rv_one (r : Rv) : (r.cells.all fun x=>x.oneCell') = true:=by simp [Rv.cells,Value.oneCell']
theorem set_range {g : Nat} {t : TypeId} : ∀ (vs : List Value) (o : Nat) (F : Array Value) {w : World},Has w g t F → ∃ F',Has (w.setCells g o vs) g t F' ∧ F'.size = F.size ∧ (∀ B,B ≤ g → ∀ a,Below B a w → Below B a (w.setCells g o vs)) ∧ (∀ j,F'[j]? = if o ≤ j ∧ j < o + vs.length ∧ j < F.size then vs[j - o]? else F[j]?)
 | [],o,F,w,h=>⟨F,h,rfl,fun _ _ _ h=>h,fun j=>by rw [if_neg (by simp;omega)]⟩
 | v :: r,o,F,w,h=>by
  obtain ⟨F',h1,h2,h3,h4⟩:=set_range r (o + 1) _ (h.set o v)
  refine ⟨F',h1,by simpa using h2,fun B hB a hb=>h3 B hB a (hb.setCell (p:=⟨g,o,none⟩) hB v),fun j=>?_⟩
  rw [h4]
  by_cases e : o = j
  · subst e
    rw [if_neg (by omega)]
    by_cases hs : o < F.size
    · rw [if_pos ⟨by omega,by simp,hs⟩]
      simp [hs]
    · rw [if_neg (by omega)]
      simp [hs]
  · by_cases hc : o + 1 ≤ j ∧ j < o + 1 + r.length ∧ j < F.size
    · rw [if_pos (by simpa using hc),if_pos (by simp;omega)]
      rw [show j - o = (j - (o + 1)) + 1 by omega,List.getElem?_cons_succ]
    · rw [if_neg (by simpa using hc),if_neg (by simp;omega)]
      simp [e]
theorem rv_set_data {w : World} {g : Nat} {t : TypeId} {r : Rv} (h : Has w g t r.cells) (d : Dv) : Has (w.setCells g 4 d.cells.toList) g t ({ r with d:=d } : Rv).cells ∧ ∀ B,B ≤ g → ∀ a,Below B a w → Below B a (w.setCells g 4 d.cells.toList):=by
 obtain ⟨F',h1,h2,h3,h4⟩:=set_range (w:=w) d.cells.toList 4 _ h
 have e : F' = ({ r with d:=d } : Rv).cells:=by
  apply Array.ext_getElem?
  intro j
  rw [h4]
  by_cases hj : j < 12
  · rcases (by omega : j = 0 ∨ j = 1 ∨ j = 2 ∨ j = 3 ∨ j = 4 ∨ j = 5 ∨ j = 6 ∨ j = 7 ∨ j = 8 ∨ j = 9 ∨ j = 10 ∨ j = 11) with rfl | rfl | rfl | rfl | rfl | rfl | rfl | rfl | rfl | rfl | rfl | rfl <;> rfl
  · rw [if_neg (by simp [Rv.cells];omega),Array.getElem?_eq_none (by simp [Rv.cells];omega),Array.getElem?_eq_none (by simp [Rv.cells];omega)]
 rw [e] at h1
 exact ⟨h1,h3⟩
end Go.Proofs.YtekafhogiambaaaGreatDoor
namespace Go.Proofs.YtekafhogiambaaaGreatDoor
open Go.RowKit
theorem rv_cl {W : World} {g : Nat} {r : Rv} {t : TypeId} (h : Has W g t r.cells) : W.cell? ⟨g,2,none⟩ = some (.int .u16 r.cl):=by rw [h.cell];rfl
theorem folded_size (s : ByteArray) : (⟨(Nm.fold s.data.toList).toArray⟩ : ByteArray).size = s.size:=by
 show ((Nm.fold s.data.toList).toArray).size = s.size
 simp [Nm.fold]
set_option maxHeartbeats 400000 in
theorem msmall_any (s : ByteArray) (w : World) (hs : s.size ≤ 140737488355328) :
 Calls Tryz.prog 17 #[.string s] w fun e w' => e = .returned (sv (Nm.text (Nm.fold s.data.toList))) ∧ Below w.heap.size w w':=by
 have HF:=Lib.hid (fun W : World=>Fold_any s W hs)
 have HT:=Lib.hid (fun W : World=>(show Calls Tryz.prog 30 #[.string ⟨(Nm.fold s.data.toList).toArray⟩] W fun e w' => e = .returned (sv (Nm.text (Nm.fold s.data.toList))) ∧ Below W.heap.size W w' from by
  have h:=Text_any ⟨(Nm.fold s.data.toList).toArray⟩ W (by rw [folded_size];exact hs)
  simpa using h))
 generalize (⟨(Nm.fold s.data.toList).toArray⟩ : ByteArray) = N at *
 generalize Nm.text (Nm.fold s.data.toList) = T at *
 go_enter Tryz.func17,Tryz.ntmps17
 go_wp2_with (first
  | (go_at_call 31
     refine (HF.out _).mono ?_
     rintro e w1 ⟨rfl,B1⟩)
  | (go_at_call 30
     refine (HT.out _).mono ?_
     rintro e w2 ⟨rfl,B2⟩
     have B3:=Lib.hid (B1.trans (B2.mono B1.size))
     clear B2))
 go_ret
 exact ⟨rfl,B3.out⟩
set_option maxHeartbeats 400000 in
theorem mcheck_any (r : Rv) (w : World) (ht : r.ty ≤ 65535) (hL : LayR w) (hf : r.d.fits) (hs : r.short) (hr : r.d.raw.size ≤ 8796093022208) :
 Calls Tryz.prog 14 #[r.val] w fun e w' => e = .returned (.int .i64 (Mp.okL r : Nat)) ∧ Below w.heap.size w w':=by
 have HN:=Lib.hid (fun W : World=>Check_any r.nm W hs.1)
 have HD:=Lib.hid (fun (W : World) (h : LayR W)=>(show Calls Tryz.prog 27 #[.int .u16 r.ty,.agg r.d.cells] W (fun e w' => e = .returned (.int .i64 (if Rd.ok r.ty r.d.dt then 0 else 40 : Nat)) ∧ Below W.heap.size W w') from pdCheck_any r.ty r.d W ht h hf hr hs.2.1 hs.2.2))
 have HL:=Lib.hid hL
 have hval : r.val = .agg r.cells:=rfl
 have hi8 : (Tryz.prog.info? 37).map (·.size) = some 8:=by kernel_rfl
 have HI8:=Lib.hid hi8
 clear hi8 ht hL hf hs hr
 have hX0:=Has.fresh w 39 r.cells
 have HX:=Lib.hid hX0
 have HB : Hid (Below w.heap.size w (w.alloc (.cells r.cells 39))):=(Below.refl _ _).alloc (Nat.le_refl _) _
 have c0:=rv_nm HX.out
 clear hX0
 have hok : Mp.okL r = if (Nm.split r.nm.data.toList).isSome then (if r.cl = 1 then (if r.ttl ≤ 2147483647 then (if Rd.ok r.ty r.d.dt then 0 else 40) else 91) else 92) else 90:=rfl
 by_cases hn : (Nm.split r.nm.data.toList).isSome = true
 · rw [if_pos hn] at HN hok
   by_cases hc : r.cl = 1
   · have ic : (r.cl : Int) = 1:=by omega
     rw [if_pos hc] at hok
     by_cases hl : r.ttl ≤ 2147483647
     · have il : ¬ (2147483647 : Int) < (r.ttl : Int):=by omega
       rw [if_pos hl] at hok
       rw [hok]
       clear hok hn hc hl
       generalize (if Rd.ok r.ty r.d.dt = true then 0 else 40 : Nat) = Z at *
       go_enter Tryz.func14,Tryz.ntmps14
       go_wp2_with (first
        | (go_at_call 13
           refine (HN.out _).mono ?_
           rintro e w1 ⟨rfl,B1⟩
           have HX1:=Lib.hid (HX.out.below B1 (by simp))
           have HB1:=Lib.hid (HB.out.trans (B1.mono (by simp)))
           have c1:=rv_ty HX1.out
           have c2:=rv_cl HX1.out
           have c3:=rv_ttl HX1.out
           clear B1)
        | (refine wpList_load_mid rfl 37 (.tmp 18) rfl w.heap.size 4 rfl r.d.cells.toList _ (by have h:=rv_data HX1.out;exact h) Tryz.underlying37 rfl HI8.out ?_)
        | (go_at_call 27
           refine (HD.out _ (HL.out.below HB1.out (Nat.le_refl _))).mono ?_
           rintro e w2 ⟨rfl,B2⟩
           have HB2:=Lib.hid (HB1.out.trans (B2.mono HB1.out.size))
           clear B2))
       go_ret
       exact ⟨rfl,HB2.out⟩
     · have il : (2147483647 : Int) < (r.ttl : Int):=by omega
       rw [if_neg hl] at hok
       rw [hok]
       clear hok hn hc hl
       go_enter Tryz.func14,Tryz.ntmps14
       go_wp2_with (go_at_call 13;refine (HN.out _).mono ?_;rintro e w1 ⟨rfl,B1⟩;have HX1:=Lib.hid (HX.out.below B1 (by simp));have HB1:=Lib.hid (HB.out.trans (B1.mono (by simp)));have c2:=rv_cl HX1.out;have c3:=rv_ttl HX1.out;clear B1)
       go_ret
       exact ⟨rfl,HB1.out⟩
   · have ic : ¬ (r.cl : Int) = 1:=by omega
     rw [if_neg hc] at hok
     rw [hok]
     clear hok hn hc
     go_enter Tryz.func14,Tryz.ntmps14
     go_wp2_with (go_at_call 13;refine (HN.out _).mono ?_;rintro e w1 ⟨rfl,B1⟩;have HX1:=Lib.hid (HX.out.below B1 (by simp));have HB1:=Lib.hid (HB.out.trans (B1.mono (by simp)));have c2:=rv_cl HX1.out;clear B1)
     go_ret
     exact ⟨rfl,HB1.out⟩
 · rw [if_neg hn] at HN hok
   rw [hok]
   clear hok hn
   go_enter Tryz.func14,Tryz.ntmps14
   go_wp2_with (go_at_call 13;refine (HN.out _).mono ?_;rintro e w1 ⟨rfl,B1⟩;have HB1:=Lib.hid (HB.out.trans (B1.mono (by simp)));clear B1)
   go_ret
   exact ⟨rfl,HB1.out⟩
end Go.Proofs.YtekafhogiambaaaGreatDoor
namespace Go.Proofs.YtekafhogiambaaaGreatDoor
open Go.RowKit
theorem shS_len (t : Nat) (d : Dv) (hf : d.fits) (hok : Rd.ok t d.dt = true) : (shS t d (txs d)).length ≤ 15000000000000:=by
 have hrl : d.dt.raw.length = d.raw.size:=by simp [Dv.dt]
 have hraw:=ok_raw hok
 obtain ⟨q1,q2⟩:=txs_le d
 have hw:=wds_words (ls:=txs d) t hf (by omega) (fun x hx=>by have:=q2 x hx;omega)
 have hXl : ∀ p,(shX d (txs d) p).length ≤ 100000:=fun p=>by
  unfold shX
  split
  · simp
  split
  · simp
  split
  · rw [List.length_map];omega
  split
  · unfold cw;split <;> simp
  · simp
 have hcnt:=wds_len (d:=d.dt) hXl t 7
 rw [List.take_of_length_le (by rw [Rd.parts_len];omega)] at hcnt
 have hjl:=join_len (s := [32]) _ hw
 rw [show ([32] : List UInt8).length = 1 from rfl] at hjl
 have hmul:=Nat.mul_le_mul_right (20000000 + 1) hcnt
 rw [sh_eq] at hjl
 omega
namespace Mp
def words (r : Rv) : List Nm.By := [Nm.text (Nm.fold r.nm.data.toList),Rd.dec r.ttl, [73,78],Rd.tyText r.ty,shS r.ty (r.d.fold r.ty) (txs (r.d.fold r.ty))]
def lineL (r : Rv) : Nm.By:=Lib.join (words r) [32] ++ [10]
theorem join5 (a b c d e : Nm.By) : Lib.join [a,b,c,d,e] [32] = a ++ [32] ++ b ++ [32] ++ c ++ [32] ++ d ++ [32] ++ e:=by
 simp [Lib.join,List.intercalate]
theorem dec_few {n : Nat} (h : n ≤ 4294967295) : (Rd.dec n).length ≤ 4294967296:=by have:=Rd.dec_len n;omega
theorem tyText_few {t : Nat} (h : t ≤ 65535) : (Rd.tyText t).length ≤ 65600:=by
 unfold Rd.tyText
 split
 · rename_i x hx
   have hm:=List.mem_of_find?_eq_some hx
   have : ∀ y ∈ Rd.tyTab,y.2.length ≤ 65600:=by decide
   exact this _ hm
 · have:=Rd.dec_len t
   simp
   omega
end Mp
set_option maxHeartbeats 400000 in
theorem mline_any (g : Nat) (ws : List (List UInt8)) (W : World) (hcells : ∀ (j : Nat) (x : List UInt8),ws[j]? = some x → W.cell? ⟨g,j,none⟩ = some (sv x)) (hg : g < W.heap.size) (hl : ws.length ≤ 1000) (hj : (Lib.join ws [32]).length ≤ 100000000000000) :
 Calls Tryz.prog 16 #[.slice (some ⟨g,0,none⟩) ws.length ws.length] W fun e w' => e = .returned (sv (Lib.join ws [32] ++ [10])) ∧ Below W.heap.size W w':=by
 have hm : (ws.map fun l=>(⟨l.toArray⟩ : ByteArray)).map (·.data.toList) = ws:=by
  rw [List.map_map]
  exact (List.map_congr_left (fun _ _=>rfl)).trans (List.map_id _)
 have HJ:=Tryz.strings_Join g 0 ws.length (ws.map fun l=>(⟨l.toArray⟩ : ByteArray)) ⟨#[32]⟩ W (fun j x hx=>by
  have hj2 : j < ws.length:=by have:=(List.getElem?_eq_some_iff.1 hx).1;simpa using this
  rw [Nat.zero_add]
  have hx2 : x = ⟨(ws[j]).toArray⟩:=by simp [hj2] at hx;exact hx.symm
  rw [hx2]
  exact hcells j _ (by simp [hj2])) hg (by simp;omega) (by simp) (by rw [hm];exact Nat.le_trans hj (by omega))
 rw [hm,List.length_map] at HJ
 have HJ2 : Hid (Calls Tryz.prog 29 #[.slice (some ⟨g,0,none⟩) ws.length ws.length,.string ⟨#[32]⟩] W fun e w' => e = .returned (sv (Lib.join ws [32])) ∧ Below W.heap.size W w'):=HJ
 clear HJ hm hcells
 obtain ⟨J,hJ⟩ : ∃ J,Lib.join ws [32] = J:=⟨_,rfl⟩
 rw [hJ] at HJ2 hj
 rw [hJ]
 have hlong : ¬ 9223372036854775807 < List.length J + 1:=by omega
 clear hJ
 go_enter Tryz.func16,Tryz.ntmps16
 go_wp2_with (go_at_call 29;refine HJ2.out.mono ?_;rintro e w1 ⟨rfl,B1⟩;have HB1:=Lib.hid B1;clear B1)
 go_ret
 exact ⟨rfl,HB1.out⟩
end Go.Proofs.YtekafhogiambaaaGreatDoor
namespace Go.Proofs.YtekafhogiambaaaGreatDoor
open Go.RowKit
theorem Mp.words_len (r : Rv) (ht : r.ty ≤ 65535) (hf : r.d.fits) (hl : r.ttl ≤ 4294967295) (hok : Rd.ok r.ty r.d.dt = true) : (Lib.join (Mp.words r) [32]).length ≤ 16000000000000:=by
 have h1:=text_few (Nm.fold r.nm.data.toList)
 have h2:=Mp.dec_few hl
 have h3:=Mp.tyText_few ht
 have h4:=shS_len r.ty (r.d.fold r.ty) (fun k=>by
  have:=hf k
  unfold Dv.fold
  exact this) (by rw [Rd.ok_fold];exact hok)
 unfold Mp.words
 rw [Mp.join5]
 simp only [List.length_append,List.length_cons,List.length_nil]
 omega
theorem five_cells {W : World} {g : Nat} {t : TypeId} {a b c d e : List UInt8} (h : Has W g t #[sv a,sv b,sv c,sv d,sv e]) : ∀ (j : Nat) (x : List UInt8), [a,b,c,d,e][j]? = some x → W.cell? ⟨g,j,none⟩ = some (sv x):=by
 intro j x hx
 rw [h.cell]
 rcases j with _ | _ | _ | _ | _ | j
 all_goals first
  | (simp at hx;done)
  | (simp at hx;subst hx;rfl)
set_option maxHeartbeats 400000 in
theorem sfmtU10_any (u : Nat) (w : World) (hu64 : u < 18446744073709551616) (hL : LayP w) :
 Calls Tryz.prog 34 #[.int .u64 u,.int .i64 10] w fun e w' => e = .returned (sv (Rd.dec u)) ∧ Below w.heap.size w w':=by
 have HF:=Lib.hid (fmtU10_any u w hu64 hL)
 clear hu64 hL
 generalize Rd.dec u = T at *
 go_enter Tryz.func34,Tryz.ntmps34
 go_wp2_with (go_at_call 58;refine HF.out.mono ?_;rintro e w1 ⟨rfl,B1⟩;have HB1:=Lib.hid B1;clear B1)
 go_ret
 exact ⟨rfl,HB1.out⟩
set_option maxHeartbeats 1000000 in
theorem recLine_any (r : Rv) (w : World) (ht : r.ty ≤ 65535) (hl : r.ttl ≤ 4294967295) (hL : LayA w) (hf : r.d.fits) (hs : r.short) (hr : r.d.raw.size ≤ 8796093022208) (hok : Rd.ok r.ty r.d.dt = true) :
 Calls Tryz.prog 18 #[r.val] w fun e w' => e = .returned (sv (Mp.lineL r)) ∧ Below w.heap.size w w':=by
 have hwl:=Mp.words_len r ht hf hl hok
 have hLL:=Lib.hid hL
 have HTX:=Lib.hid (fun W : World=>msmall_any r.nm W hs.1)
 have HDC:=Lib.hid (fun (W : World) (h : LayP W)=>sfmtU10_any r.ttl W (by omega) h)
 have HTY:=Lib.hid (fun (W : World) (h : LayA W)=>TypeText_any r.ty W ht h)
 have HFO:=Lib.hid (fun (W : World) (h : LayR W)=>pdFold_any r.ty r.d W ht h hs.2.1 hs.2.2)
 have hff : (r.d.fold r.ty).fits:=fun k=>hf k
 have HSH : Hid (∀ W : World,LayA W → Calls Tryz.prog 32 #[.int .u16 r.ty,(r.d.fold r.ty).val] W fun e W' => e = .returned (.tuple #[sv (shS r.ty (r.d.fold r.ty) (txs (r.d.fold r.ty))),.int .i64 0]) ∧ Below W.heap.size W W'):=fun W h=>by
  have hz : (r.d.fold r.ty).raw.size ≤ 8796093022208:=hr
  have h1 : (r.d.fold r.ty).host.size ≤ 140737488355328:=by
   unfold Dv.fold
   dsimp only
   split
   · rw [folded_size];exact hs.2.1
   · exact hs.2.1
  have h2 : (r.d.fold r.ty).mail.size ≤ 140737488355328:=by
   unfold Dv.fold
   dsimp only
   split
   · rw [folded_size];exact hs.2.2
   · exact hs.2.2
  have:=pdShow_any r.ty (r.d.fold r.ty) W ht h hff hz h1 h2
  unfold shV at this
  rw [Rd.ok_fold,if_pos hok] at this
  exact this
 have hln : Mp.lineL r = Lib.join [Nm.text (Nm.fold r.nm.data.toList),Rd.dec r.ttl, [73,78],Rd.tyText r.ty,shS r.ty (r.d.fold r.ty) (txs (r.d.fold r.ty))] [32] ++ [10]:=rfl
 unfold Mp.words at hwl
 rw [hln]
 have HLI : Hid (∀ (W : World) (g : Nat),(∀ (j : Nat) (x : List UInt8), [Nm.text (Nm.fold r.nm.data.toList),Rd.dec r.ttl, [73,78],Rd.tyText r.ty,shS r.ty (r.d.fold r.ty) (txs (r.d.fold r.ty))][j]? = some x → W.cell? ⟨g,j,none⟩ = some (sv x)) → g < W.heap.size → Calls Tryz.prog 16 #[.slice (some ⟨g,0,none⟩) 5 5] W fun e w' => e = .returned (sv (Lib.join [Nm.text (Nm.fold r.nm.data.toList),Rd.dec r.ttl, [73,78],Rd.tyText r.ty,shS r.ty (r.d.fold r.ty) (txs (r.d.fold r.ty))] [32] ++ [10])) ∧ Below W.heap.size W w'):=fun W g h hg=>mline_any g _ W h hg (by simp) (by omega)
 have iu : IntKind.u64.wrap (r.ttl : Int) = (r.ttl : Int):=by rw [IntKind.wrap_u64];omega
 clear hwl hff hf hr hok hln
 generalize Lib.join [Nm.text (Nm.fold r.nm.data.toList),Rd.dec r.ttl, [73,78],Rd.tyText r.ty,shS r.ty (r.d.fold r.ty) (txs (r.d.fold r.ty))] [32] ++ [10] = J at *
 generalize shS r.ty (r.d.fold r.ty) (txs (r.d.fold r.ty)) = T at *
 generalize Nm.text (Nm.fold r.nm.data.toList) = T1 at *
 generalize r.d.fold r.ty = D at *
 obtain ⟨nm,ty,cl,ttl,b0,b1,b2,m0,m1,m2,m3,m4⟩:=r
 obtain ⟨e0,e1,e2,q0,q1,q2,q3,q4⟩:=D
 dsimp only at *
 unfold Rv.val Rv.cells
 dsimp only [Dv.val] at HFO HSH ⊢
 generalize Rd.dec ttl = T2 at *
 generalize Rd.tyText ty = T3 at *
 clear hs ht hl
 have hX0:=Has.fresh w 39 #[.string nm,.int .u16 ty,.int .u16 cl,.int .u32 ttl,.string b0,.string b1,.string b2,.int .u32 m0,.int .u32 m1,.int .u32 m2,.int .u32 m3,.int .u32 m4]
 have HB0 : Hid (Below w.heap.size w (w.alloc (.cells #[.string nm,.int .u16 ty,.int .u16 cl,.int .u32 ttl,.string b0,.string b1,.string b2,.int .u32 m0,.int .u32 m1,.int .u32 m2,.int .u32 m3,.int .u32 m4] 39))):=(Below.refl _ _).alloc (Nat.le_refl _) _
 go_enter Tryz.func18,Tryz.ntmps18
 go_wp2
 revert HB0 hX0
 generalize w.alloc _ = w0
 intro HX HB0
 have c0 : w0.cell? ⟨w.heap.size,0,none⟩ = some (.string nm):=by rw [HX.cell];rfl
 have c1 : w0.cell? ⟨w.heap.size,1,none⟩ = some (.int .u16 ty):=by rw [HX.cell];rfl
 have c3 : w0.cell? ⟨w.heap.size,3,none⟩ = some (.int .u32 ttl):=by rw [HX.cell];rfl
 have c4 : w0.cell? ⟨w.heap.size,4,none⟩ = some (.string b0):=by rw [HX.cell];rfl
 have c5 : w0.cell? ⟨w.heap.size,5,none⟩ = some (.string b1):=by rw [HX.cell];rfl
 have c6 : w0.cell? ⟨w.heap.size,6,none⟩ = some (.string b2):=by rw [HX.cell];rfl
 have c7 : w0.cell? ⟨w.heap.size,7,none⟩ = some (.int .u32 m0):=by rw [HX.cell];rfl
 have c8 : w0.cell? ⟨w.heap.size,8,none⟩ = some (.int .u32 m1):=by rw [HX.cell];rfl
 have c9 : w0.cell? ⟨w.heap.size,9,none⟩ = some (.int .u32 m2):=by rw [HX.cell];rfl
 have c10 : w0.cell? ⟨w.heap.size,10,none⟩ = some (.int .u32 m3):=by rw [HX.cell];rfl
 have c11 : w0.cell? ⟨w.heap.size,11,none⟩ = some (.int .u32 m4):=by rw [HX.cell];rfl
 have hB:=HB0.out
 clear HX HB0
 go_region_held3 (fun W=>W.cell? ⟨w.heap.size,0,none⟩ = some (.string nm) ∧ W.cell? ⟨w.heap.size,1,none⟩ = some (.int .u16 ty) ∧ W.cell? ⟨w.heap.size,3,none⟩ = some (.int .u32 ttl) ∧ W.cell? ⟨w.heap.size,4,none⟩ = some (.string b0) ∧ W.cell? ⟨w.heap.size,5,none⟩ = some (.string b1) ∧ W.cell? ⟨w.heap.size,6,none⟩ = some (.string b2) ∧ W.cell? ⟨w.heap.size,7,none⟩ = some (.int .u32 m0) ∧ W.cell? ⟨w.heap.size,8,none⟩ = some (.int .u32 m1) ∧ W.cell? ⟨w.heap.size,9,none⟩ = some (.int .u32 m2) ∧ W.cell? ⟨w.heap.size,10,none⟩ = some (.int .u32 m3) ∧ W.cell? ⟨w.heap.size,11,none⟩ = some (.int .u32 m4) ∧ Below w.heap.size w W)
  (first
   | (exact ⟨c0,c1,c3,c4,c5,c6,c7,c8,c9,c10,c11,hB.drew⟩)
   | (go_keep;done)
   | (go_split_ands
      try dsimp only
      refine ⟨keep_cell hbW (by assumption),keep_cell hbW (by assumption),keep_cell hbW (by assumption),keep_cell hbW (by assumption),keep_cell hbW (by assumption),keep_cell hbW (by assumption),keep_cell hbW (by assumption),keep_cell hbW (by assumption),keep_cell hbW (by assumption),keep_cell hbW (by assumption),keep_cell hbW (by assumption),keep_below hbW (by assumption) (Nat.le_refl _)⟩))
  (first
   | (go_split_ands;go_at_call 33
      refine (HFO.out _ (LayR.below hLL.out.1 (by assumption) (Nat.le_refl _))).mono ?_
      rintro e W1 ⟨rfl,hbW⟩)
   | (go_split_ands;go_at_call 32
      refine (HSH.out _ (LayA.below hLL.out (by assumption) (Nat.le_refl _))).mono ?_
      rintro e W1 ⟨rfl,hbW⟩))
 rename_i hh
 have d0:=hh.1
 have d1:=hh.2.1
 have d3:=hh.2.2.1
 have HW:=hh.2.2.2.2.2.2.2.2.2.2.2
 clear hh c0 c1 c3 c4 c5 c6 c7 c8 c9 c10 c11 hB hbW
 go_wp2
 go_region_held3 (fun W=>W.cell? ⟨w.heap.size,0,none⟩ = some (.string nm) ∧ W.cell? ⟨w.heap.size,1,none⟩ = some (.int .u16 ty) ∧ W.cell? ⟨w.heap.size,3,none⟩ = some (.int .u32 ttl) ∧ Below w.heap.size w W)
  (first
   | (exact ⟨d0,d1,d3,HW.drew⟩)
   | (go_keep;done)
   | (go_split_ands
      try dsimp only
      refine ⟨keep_cell hbW (by assumption),keep_cell hbW (by assumption),keep_cell hbW (by assumption),keep_below hbW (by assumption) (Nat.le_refl _)⟩)
   | (go_split_ands
      try dsimp only
      refine ⟨keep_cell ((Below.refl _ _).alloc (Nat.le_refl _) _) (by assumption),keep_cell ((Below.refl _ _).alloc (Nat.le_refl _) _) (by assumption),keep_cell ((Below.refl _ _).alloc (Nat.le_refl _) _) (by assumption),keep_below ((Below.refl _ _).alloc (Nat.le_refl _) _) (by assumption) (Nat.le_refl _)⟩))
  (first
   | (go_at_call 17
      refine (HTX.out _).mono ?_
      rintro e W1 ⟨rfl,hbW⟩)
   | (go_split_ands;go_at_call 34
      refine (HDC.out _ (LayP.below hLL.out.2.1 (by assumption) (Nat.le_refl _))).mono ?_
      rintro e W1 ⟨rfl,hbW⟩)
   | (go_split_ands;go_at_call 35
      refine (HTY.out _ (LayA.below hLL.out (by assumption) (Nat.le_refl _))).mono ?_
      rintro e W1 ⟨rfl,hbW⟩)
   | (go_at_call 16
      refine (HLI.out _ _ (five_cells (Has.fresh _ _ _)) (by simp)).mono ?_
      rintro e W1 ⟨rfl,hbW⟩))
 rename_i hh
 have HW2:=Lib.hid hh.2.2.2
 clear hh d0 d1 d3 HW hbW
 go_wp2
 go_ret
 exact ⟨rfl,HW2.out⟩
end Go.Proofs.YtekafhogiambaaaGreatDoor
namespace Go.Proofs.YtekafhogiambaaaGreatDoor
open Go.RowKit
namespace Mp
def Fine (r : Rv) : Prop:=r.ty ≤ 65535 ∧ r.ttl ≤ 4294967295 ∧ r.d.fits ∧ r.short ∧ r.d.raw.size ≤ 8796093022208
def headL (o : Nm.By) : Nm.By := [36,79,82,73,71,73,78,32] ++ Nm.text (Nm.fold o) ++ [10]
def textL (o : Nm.By) (l : List Rv) : Nm.By:=headL o ++ l.flatMap lineL
def printV (o : Nm.By) (l : List Rv) : Value :=
 if Rd.nm o then (if bad l = 0 then (if (textL o l).length ≤ 262144 then .tuple #[sv (textL o l),.int .i64 0] else .tuple #[.string ⟨#[]⟩,.int .i64 2]) else .tuple #[.string ⟨#[]⟩,.int .i64 (bad l : Nat)])
 else .tuple #[.string ⟨#[]⟩,.int .i64 11]
theorem lineL_len {r : Rv} (h : Fine r) (hk : okL r = 0) : (lineL r).length ≤ 16000000000001:=by
 have:=words_len r h.1 h.2.2.1 h.2.1 (okL_zero hk).2.2.2
 unfold lineL
 rw [List.length_append]
 simp
 omega
theorem headL_len (o : Nm.By) : (headL o).length ≤ 40009:=by
 have:=text_few (Nm.fold o)
 unfold headL
 simp
 omega
theorem bad_mem : ∀ {l : List Rv},bad l = 0 → ∀ r ∈ l,okL r = 0
 | [],_,r,h=>by cases h
 | x :: l,hb,r,h=>by
  rw [bad] at hb
  by_cases e : okL x = 0
  · rw [if_pos e] at hb
    rcases List.mem_cons.1 h with rfl | h
    · exact e
    · exact bad_mem hb r h
  · rw [if_neg e] at hb
    exact absurd hb e
theorem textL_snoc (o : Nm.By) (l : List Rv) (r : Rv) : textL o (l ++ [r]) = textL o l ++ lineL r:=by
 unfold textL
 simp
end Mp
end Go.Proofs.YtekafhogiambaaaGreatDoor
namespace Go.Proofs.YtekafhogiambaaaGreatDoor.Mh
open Rd (By)
def Pw (s : By) : Prop:=s ≠ [] ∧ ∀ c ∈ s,Tk.stB false c = [c]
theorem st_plain : ∀ {s : By},(∀ c ∈ s,Tk.stB false c = [c]) → Tk.stW false s = s
 | [],_=>rfl
 | c :: r,h=>by
  rw [Tk.stW_cons,h c (by simp),st_plain (fun x hx=>h x (by simp [hx]))]
  rfl
def dat (o : By) : Rd.Dt:=⟨[], [1,110] ++ o, [],0,0,0,0,0⟩
theorem bareW_nil {ws : List Tk.Wd} (h : Tk.bareW ws = []) : ws = []:=List.map_eq_nil_iff.1 h
theorem bareW_cons {ws : List Tk.Wd} {s : By} {q : Bool} {r : List (By × Bool)} (h : Tk.bareW ws = (s,q) :: r) : ∃ l c t,ws = ⟨s,q,l,c⟩ :: t ∧ Tk.bareW t = r:=by
 cases ws with
 | nil=>cases h
 | cons a t =>
  obtain ⟨x,y,l,c⟩:=a
  simp only [Tk.bareW,List.map_cons,List.cons.injEq,Prod.mk.injEq] at h
  obtain ⟨⟨rfl,rfl⟩,h⟩:=h
  exact ⟨l,c,t,rfl,h⟩
section
variable {l c : Nat}
theorem num_IN : Ma.num ⟨[73,78],false,l,c⟩ = none:=show Rd.num [73,78] 4294967295 = none by decide
theorem num_dec {n : Nat} (h : n ≤ 65535) : Ma.num ⟨Rd.dec n,false,l,c⟩ = some n:=show Rd.num (Rd.dec n) 4294967295 = some n from Rd.num_dec (by omega) (by decide)
theorem kw_IN : Ma.kw ⟨[73,78],false,l,c⟩ = [105,110]:=show Nm.fold [73,78] = _ by decide
end
end Go.Proofs.YtekafhogiambaaaGreatDoor.Mh
