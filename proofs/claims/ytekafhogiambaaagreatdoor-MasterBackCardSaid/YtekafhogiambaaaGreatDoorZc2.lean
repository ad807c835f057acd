/- Texts of the proofs, merged. -/
import Derived.Test.YtekafhogiambaaaGreatDoorZc1
import Derived.Lib.Hide
namespace Go.Proofs.YtekafhogiambaaaGreatDoor.Rd
abbrev W2:=By × Bool
def plainW : List W2 → Option (By × List W2)
 | []=>none
 | w :: r=>if w.2 then none else some (w.1,r)
def allM (f : By → Option Nat) : List By → Option (List Nat)
 | []=>some []
 | p :: r=>match f p,allM f r with
  | some v,some vs=>some (v :: vs)
  | _,_=>none
theorem allM_map {α : Type} {f : By → Option Nat} {g : α → By} {v : α → Nat} : ∀ {l : List α},(∀ x ∈ l,f (g x) = some (v x)) → allM f (l.map g) = some (l.map v)
 | [],_=>rfl
 | a :: r,h=>by
  rw [List.map_cons,allM,h a (by simp),allM_map (fun x hx=>h x (by simp [hx]))]
  rfl
def addr4 (s : By) : Option By:=if (splitB 46 s).length = 4 then (allM (fun p=>num p 255) (splitB 46 s)).map (·.map UInt8.ofNat) else none
theorem addr4_tell {r : By} (h : r.length = 4) : addr4 (joinB 46 (r.map fun c=>dec c.toNat)) = some r:=by
 have h0 : (r.map fun c=>dec c.toNat) ≠ []:=by
  intro e
  have:=congrArg List.length e
  rw [List.length_map,h] at this
  cases this
 have hs:=split_join (b:=46) h0 (fun p hp c hc=>by
  obtain ⟨x,_,rfl⟩:=List.mem_map.1 hp
  exact (digit_ne (dec_mem hc)).2.2.2.1)
 unfold addr4
 rw [hs,if_pos (by rw [List.length_map,h]),allM_map (v:=fun c : UInt8=>c.toNat) (fun c _=>num_dec (by have:=c.toNat_lt;omega) (by decide))]
 rw [Option.map_some,List.map_map]
 congr 1
 have : (UInt8.ofNat ∘ fun c : UInt8=>c.toNat) = id:=by
  funext c
  simp
 rw [this,List.map_id]
def hexR (s : By) : Option Nat:=if s.length = 0 ∨ 4 < s.length then none else hexV s
theorem hexR_hex {n : Nat} (h : n < 65536) : hexR (hex n) = some n:=by
 have h1:=hex_few 3 n (by omega)
 have h2:=hex_pos n
 unfold hexR
 rw [if_neg (by omega),hex_val]
def groupsR (s : By) : Option (List Nat):=if s = [] then some [] else allM hexR (splitB 58 s)
def cut2 : By → By × By × Bool
 | []=>([], [],false)
 | [c]=>([c], [],false)
 | c :: d :: r=>if c = 58 ∧ d = 58 then ([],r,true) else (c :: (cut2 (d :: r)).1,(cut2 (d :: r)).2)
def addr16 (s : By) : Option By :=
 match groupsR (cut2 s).1,groupsR (cut2 s).2.1 with
 | some a,some b =>
  if ((cut2 s).2.2 = true ∧ 8 ≤ a.length + b.length) ∨ ((cut2 s).2.2 = false ∧ a.length + b.length ≠ 8) then none
  else some ((a ++ List.replicate (8 - (a.length + b.length)) 0 ++ b).flatMap fun g => [UInt8.ofNat (g / 256),UInt8.ofNat (g % 256)])
 | _,_=>none
theorem cut2_plain {c : UInt8} {r : By} (h : c ≠ 58) : cut2 (c :: r) = (c :: (cut2 r).1,(cut2 r).2):=by
 cases r with
 | nil=>rfl
 | cons d r=>rw [cut2,if_neg (fun e=>h e.1)]
theorem cut2_app {p : By} (h : ∀ c ∈ p,c ≠ 58) (t : By) : cut2 (p ++ t) = (p ++ (cut2 t).1,(cut2 t).2):=by
 induction p with
 | nil=>rfl
 | cons c r ih =>
  rw [List.cons_append,cut2_plain (h c (by simp)),ih (fun x hx=>h x (by simp [hx]))]
  rfl
theorem cut2_colon {c : UInt8} {r : By} (h : c ≠ 58) : cut2 (58 :: c :: r) = (58 :: (cut2 (c :: r)).1,(cut2 (c :: r)).2):=by rw [cut2,if_neg (fun e=>h e.2)]
theorem cut2_join : ∀ {ps : List By},(∀ p ∈ ps,p ≠ [] ∧ ∀ c ∈ p,c ≠ 58) → cut2 (joinB 58 ps) = (joinB 58 ps, [],false)
 | [],_=>rfl
 | [p],h=>by
  have:=cut2_app (h p (by simp)).2 []
  rw [List.append_nil] at this
  rw [joinB,this]
  simp [cut2]
 | p :: q :: r,h=>by
  have ih:=cut2_join (ps:=q :: r) (fun x hx=>h x (by simp [hx]))
  obtain ⟨hq,hq2⟩:=h q (by simp)
  obtain ⟨c,q',rfl⟩ : ∃ c t,q = c :: t:=by cases q with | nil=>exact absurd rfl hq | cons c t=>exact ⟨c,t,rfl⟩
  obtain ⟨t,ht⟩ : ∃ t,joinB 58 ((c :: q') :: r) = c :: t:=by
   cases r with
   | nil=>exact ⟨_,rfl⟩
   | cons x y=>exact ⟨_,rfl⟩
  rw [joinB,cut2_app (h p (by simp)).2,ht,cut2_colon (hq2 c (by simp)),← ht,ih]
theorem grp_lt (s : By) (j : Nat) : grp s j < 65536:=by
 unfold grp
 have:=(s[2 * j]?.getD 0).toNat_lt
 have:=(s[2 * j + 1]?.getD 0).toNat_lt
 omega
theorem grp_bytes (a b : UInt8) : [UInt8.ofNat ((256 * a.toNat + b.toNat) / 256),UInt8.ofNat ((256 * a.toNat + b.toNat) % 256)] = [a,b]:=by
 have ha:=a.toNat_lt
 have hb:=b.toNat_lt
 have e1 : (256 * a.toNat + b.toNat) / 256 = a.toNat:=by omega
 have e2 : (256 * a.toNat + b.toNat) % 256 = b.toNat:=by omega
 rw [e1,e2]
 simp
theorem grp_all {r : By} (h : r.length = 16) : ((List.range 8).map fun i=>grp r i).flatMap (fun g => [UInt8.ofNat (g / 256),UInt8.ofNat (g % 256)]) = r:=by
 match r,h with
 | [a0,a1,a2,a3,a4,a5,a6,a7,a8,a9,a10,a11,a12,a13,a14,a15],_ =>
  have e : (List.range 8) = [0,1,2,3,4,5,6,7]:=by decide
  rw [e]
  simp only [List.map_cons,List.map_nil,List.flatMap_cons,List.flatMap_nil,grp]
  show ([UInt8.ofNat ((256 * a0.toNat + a1.toNat) / 256),UInt8.ofNat ((256 * a0.toNat + a1.toNat) % 256)] ++ ([UInt8.ofNat ((256 * a2.toNat + a3.toNat) / 256),UInt8.ofNat ((256 * a2.toNat + a3.toNat) % 256)] ++ ([UInt8.ofNat ((256 * a4.toNat + a5.toNat) / 256),UInt8.ofNat ((256 * a4.toNat + a5.toNat) % 256)] ++ ([UInt8.ofNat ((256 * a6.toNat + a7.toNat) / 256),UInt8.ofNat ((256 * a6.toNat + a7.toNat) % 256)] ++ ([UInt8.ofNat ((256 * a8.toNat + a9.toNat) / 256),UInt8.ofNat ((256 * a8.toNat + a9.toNat) % 256)] ++ ([UInt8.ofNat ((256 * a10.toNat + a11.toNat) / 256),UInt8.ofNat ((256 * a10.toNat + a11.toNat) % 256)] ++ ([UInt8.ofNat ((256 * a12.toNat + a13.toNat) / 256),UInt8.ofNat ((256 * a12.toNat + a13.toNat) % 256)] ++ ([UInt8.ofNat ((256 * a14.toNat + a15.toNat) / 256),UInt8.ofNat ((256 * a14.toNat + a15.toNat) % 256)] ++ [])))))))) = _
  simp only [grp_bytes]
  rfl
theorem addr16_tell {r : By} (h : r.length = 16) : addr16 (joinB 58 ((List.range 8).map fun i=>hex (grp r i))) = some r:=by
 have hno : ∀ p ∈ (List.range 8).map (fun i=>hex (grp r i)),p ≠ [] ∧ ∀ c ∈ p,c ≠ 58:=fun p hp=>by
  obtain ⟨i,_,rfl⟩:=List.mem_map.1 hp
  exact ⟨hex_ne _,fun c hc=>(hex_mem hc).2.2.2.2⟩
 have hne : (List.range 8).map (fun i=>hex (grp r i)) ≠ []:=by
  intro e
  have:=congrArg List.length e
  rw [List.length_map] at this
  cases this
 have hj : joinB 58 ((List.range 8).map fun i=>hex (grp r i)) ≠ []:=joinB_pos (hex_ne _)
 have hg : groupsR (joinB 58 ((List.range 8).map fun i=>hex (grp r i))) = some ((List.range 8).map fun i=>grp r i):=by
  unfold groupsR
  rw [if_neg hj,split_join hne (fun p hp=>(hno p hp).2),allM_map (v:=fun i=>grp r i) (fun i _=>hexR_hex (grp_lt r i))]
 have hg0 : groupsR [] = some []:=rfl
 unfold addr16
 rw [cut2_join hno]
 simp only [hg,hg0]
 rw [if_neg]
 · have e8 : ((List.range 8).map fun i=>grp r i).length = 8:=by rw [List.length_map,List.length_range]
   rw [e8]
   show some (_ : By) = some r
   congr 1
   rw [show (8 - (8 + ([] : List Nat).length)) = 0 from rfl,List.replicate_zero,List.append_nil,List.append_nil]
   exact grp_all h
 · rintro (⟨h1,_⟩ | ⟨_,h2⟩)
   · cases h1
   · exact h2 (by rw [List.length_map,List.length_range];rfl)
def textsR : By → List W2 → Option By
 | raw, []=>some raw
 | raw,w :: r=>match Nm.unesc w.1 with
  | none=>none
  | some l=>if 255 < l.length ∨ 65535 < raw.length + (1 + l.length) then none else textsR (raw ++ UInt8.ofNat l.length :: l) r
theorem textsR_tell : ∀ {ls : List By} {raw : By},(∀ l ∈ ls,l.length ≤ 255) → (raw ++ ls.flatMap fun l=>UInt8.ofNat l.length :: l).length ≤ 65535 → textsR raw (ls.map fun l=>(Nm.esc true l,true)) = some (raw ++ ls.flatMap fun l=>UInt8.ofNat l.length :: l)
 | [],raw,_,_=>by rw [List.map_nil,textsR,List.flatMap_nil,List.append_nil]
 | l :: r,raw,h,hl=>by
  have h1:=h l (by simp)
  have hl2 : raw.length + (1 + l.length) ≤ 65535:=by
   rw [List.flatMap_cons,List.length_append,List.length_append,List.length_cons] at hl
   omega
  rw [List.map_cons,textsR]
  simp only [Nm.unesc_esc]
  rw [if_neg (by omega),textsR_tell (fun x hx=>h x (by simp [hx])) (by rw [List.flatMap_cons] at hl;simpa using hl)]
  simp
theorem tx_flat : ∀ (n : Nat) {s : By} {ls : List By},s.length ≤ n → tx s = some ls → (ls.flatMap fun l=>UInt8.ofNat l.length :: l) = s ∧ ∀ l ∈ ls,l.length ≤ 255:=by
 intro n
 induction n with
 | zero =>
  intro s ls hs h
  obtain rfl : s = []:=List.eq_nil_of_length_eq_zero (by omega)
  rw [tx_nil] at h
  cases h
  exact ⟨rfl,by simp⟩
 | succ n ih =>
  intro s ls hs h
  cases s with
  | nil =>
   rw [tx_nil] at h
   cases h
   exact ⟨rfl,by simp⟩
  | cons k t =>
   by_cases hk : t.length < k.toNat
   · rw [tx_bad hk] at h
     cases h
   · rw [tx_cons hk] at h
     obtain ⟨r,hr,rfl⟩:=Option.map_eq_some_iff.1 h
     obtain ⟨e,hl⟩:=ih (by simp at hs ⊢;omega) hr
     have hlen : (t.take k.toNat).length = k.toNat:=by rw [List.length_take];omega
     have hk8:=k.toNat_lt
     refine ⟨?_,fun l hl2=>?_⟩
     · rw [List.flatMap_cons,e,hlen]
       simp
     · rcases List.mem_cons.1 hl2 with rfl | hl2
       · omega
       · exact hl l hl2
def nameR (o s : By) : Option By:=if s = [64] then some o else if (Nm.parse s o).2 = 0 then some (Nm.parse s o).1 else none
theorem text_not_at (n : By) : Nm.text n ≠ [64]:=by
 unfold Nm.text
 cases hs : Nm.split n with
 | none=>simp
 | some ls =>
  cases ls with
  | nil=>decide
  | cons l r =>
   show Nm.textL (l :: r) ≠ [64]
   intro e
   have hl : (46 : UInt8) ∈ Nm.textL (l :: r):=by rw [Nm.textL_cons];simp
   rw [e] at hl
   revert hl
   decide
theorem nameR_text {n o : By} (hn : nm n = true) (ho : nm o = true) : nameR o (Nm.text n) = some n:=by
 obtain ⟨ls,hn⟩:=Option.isSome_iff_exists.1 hn
 obtain ⟨os,ho⟩:=Option.isSome_iff_exists.1 ho
 unfold nameR
 rw [if_neg (text_not_at n),Nm.parse_text hn ho]
 rfl
end Go.Proofs.YtekafhogiambaaaGreatDoor.Rd
namespace Go.Proofs.YtekafhogiambaaaGreatDoor.Rd
def setN (d : Dt) (k v : Nat) : Dt:=match k with
 | 0=>{ d with n0:=v }
 | 1=>{ d with n1:=v }
 | 2=>{ d with n2:=v }
 | 3=>{ d with n3:=v }
 | _=>{ d with n4:=v }
abbrev RS:=List W2 × Dt × Nat
def rdP (o : By) (p : Nat) (s : RS) : Option RS :=
 if p = 0 then some s
 else if p = 1 then (plainW s.1).bind fun x=>(addr4 x.1).map fun r=>(x.2,{ s.2.1 with raw:=r },s.2.2)
 else if p = 2 then (plainW s.1).bind fun x=>(addr16 x.1).map fun r=>(x.2,{ s.2.1 with raw:=r },s.2.2)
 else if p = 3 then if s.1 = [] then none else (textsR [] s.1).map fun r=>([],{ s.2.1 with raw:=r },s.2.2)
 else if p = 4 then none
 else if p = 5 ∨ p = 6 then (plainW s.1).bind fun x=>(nameR o x.1).map fun r=>(x.2,{ s.2.1 with host:=r },s.2.2)
 else if p = 7 then (plainW s.1).bind fun x=>(nameR o x.1).map fun r=>(x.2,{ s.2.1 with mail:=r },s.2.2)
 else (plainW s.1).bind fun x=>(num x.1 (if p = 8 then 65535 else 4294967295)).map fun v=>(x.2,setN s.2.1 s.2.2 v,s.2.2 + 1)
def rdAll (o : By) : List Nat → RS → Option RS
 | [],s=>some s
 | p :: r,s=>(rdP o p s).bind (rdAll o r)
def dt0 : Dt:=⟨[], [], [],0,0,0,0,0⟩
def knownR (o : By) (t : Nat) (ws : List W2) : Option Dt:=(rdAll o (parts t) (ws,dt0,0)).bind fun s=>if s.1 = [] then some s.2.1 else none
def gathR (m : Nat) : By → List W2 → Option (By × List W2)
 | ds, []=>some (ds, [])
 | ds,w :: r=>if ds.length ≤ m then (if w.2 then none else gathR m (ds ++ w.1) r) else some (ds,w :: r)
def twoR : By → Option By
 | []=>some []
 | [_]=>none
 | a :: b :: r=>match hexR [a,b],twoR r with
  | some v,some s=>some (UInt8.ofNat v :: s)
  | _,_=>none
def anyR (ws : List W2) : Option By:=(plainW ws).bind fun x=>(num x.1 65535).bind fun n=>(gathR (2 * n) [] x.2).bind fun y=>if y.1.length = 2 * n then twoR y.1 else none
def updP (d : Dt) (p n : Nat) (e : Dt) : Dt :=
 if p = 1 ∨ p = 2 ∨ p = 3 then { e with raw:=d.raw } else if p = 5 ∨ p = 6 then { e with host:=d.host } else if p = 7 then { e with mail:=d.mail }
 else if p = 8 ∨ p = 9 then setN e n (hasN d n) else e
def updAll (d : Dt) : List Nat → Nat → Dt → Dt
 | [],_,e=>e
 | p :: r,n,e=>updAll d r (n + if p = 8 ∨ p = 9 then 1 else 0) (updP d p n e)
theorem rdP_tell {d e : Dt} {ls : List By} {o : By} {n p : Nat} {r : List W2} (ho : nm o = true) (hN : ∀ i,hasN d i ≤ 4294967295) (h : fit p d n = true) (h3 : p ≠ 3) (h4 : p ≠ 4) (h9 : p ≤ 9) :
 rdP o p (pcsQ d ls n p ++ r,e,n) = some (r,updP d p n e,n + if p = 8 ∨ p = 9 then 1 else 0):=by
 unfold fit at h
 unfold rdP pcsQ updP
 by_cases h0 : p = 0
 · subst h0
   rfl
 by_cases h1 : p = 1
 · subst h1
   have h' : d.raw.length = 4:=by simpa using h
   simp [plainW,addr4_tell h']
 by_cases h2 : p = 2
 · subst h2
   have h' : d.raw.length = 16:=by simpa using h
   have ha:=addr16_tell h'
   simp only [show (2 : Nat) ≠ 0 by decide,show (2 : Nat) ≠ 1 by decide,if_false,if_true,plainW,List.cons_append,List.nil_append,Bool.false_eq_true,Option.bind_some,ha,Option.map_some]
   simp
 rw [if_neg h1,if_neg h2,if_neg h3,if_neg h4] at h
 rw [if_neg h0,if_neg h1,if_neg h2,if_neg h3,if_neg h4,if_neg h1,if_neg h2,if_neg h3,if_neg h4,if_neg (by omega : ¬(p = 1 ∨ p = 2 ∨ p = 3))]
 by_cases h5 : p = 5 ∨ p = 6
 · rw [if_pos h5] at h
   rw [if_pos h5,if_pos h5,if_pos h5,if_neg (by omega : ¬(p = 8 ∨ p = 9))]
   simp [plainW,nameR_text h ho]
 rw [if_neg h5] at h
 rw [if_neg h5,if_neg h5,if_neg h5]
 by_cases h7 : p = 7
 · rw [if_pos h7] at h
   rw [if_pos h7,if_pos h7,if_pos h7,if_neg (by omega : ¬(p = 8 ∨ p = 9))]
   simp [plainW,nameR_text h ho]
 rw [if_neg h7] at h
 rw [if_neg h7,if_neg h7,if_neg h7,if_pos (by omega : p = 8 ∨ p = 9),if_pos (by omega : p = 8 ∨ p = 9),if_pos (by omega : p = 8 ∨ p = 9)]
 by_cases h8 : p = 8
 · rw [if_pos h8] at h
   have h' : hasN d n ≤ 65535:=by simpa using h
   rw [if_pos h8]
   simp [plainW,num_dec h' (by decide)]
 · rw [if_neg h8]
   simp [plainW,num_dec (hN n) (by decide)]
theorem rdAll_tell {d : Dt} {ls : List By} {o : By} (ho : nm o = true) (hN : ∀ i,hasN d i ≤ 4294967295) : ∀ {ps : List Nat} {n : Nat} {e : Dt},(∀ p ∈ ps,p ≠ 3 ∧ p ≠ 4 ∧ p ≤ 9) → fitAll d ps n = true → ∃ m,rdAll o ps (tellQ d ls ps n,e,n) = some ([],updAll d ps n e,m)
 | [],n,e,_,_=>⟨n,rfl⟩
 | p :: r,n,e,hp,h=>by
  rw [fitAll,Bool.and_eq_true] at h
  obtain ⟨h3,h4,h9⟩:=hp p (by simp)
  obtain ⟨m,ih⟩:=rdAll_tell ho hN (ps:=r) (n:=n + if p = 8 ∨ p = 9 then 1 else 0) (e:=updP d p n e) (fun q hq=>hp q (by simp [hq])) h.2
  refine ⟨m,?_⟩
  rw [rdAll,tellQ,rdP_tell ho hN h.1 h3 h4 h9,Option.bind_some,ih]
  rfl
theorem texts_tell {d e : Dt} {ls : List By} {o : By} (h : fit 3 d 0 = true) (hls : tx d.raw = some ls) : rdAll o [3,0,0,0,0,0,0] (tellQ d ls [3,0,0,0,0,0,0] 0,e,0) = some ([],{ e with raw:=d.raw },0):=by
 have hf : (match tx d.raw with | some (_ :: _)=>decide (d.raw.length ≤ 65535) | _=>false) = true:=h
 rw [hls] at hf
 obtain ⟨he,hl⟩:=tx_flat d.raw.length (Nat.le_refl _) hls
 cases ls with
 | nil=>cases hf
 | cons a r =>
  have hb : d.raw.length ≤ 65535:=by simpa using hf
  have ht:=textsR_tell (ls:=a :: r) (raw := []) hl (by rw [List.nil_append,he];exact hb)
  rw [List.nil_append,he] at ht
  have e1 : tellQ d (a :: r) [3,0,0,0,0,0,0] 0 = (a :: r).map fun l=>(Nm.esc true l,true):=by simp [tellQ,pcsQ]
  rw [e1]
  simp only [rdAll,rdP,ht]
  simp
end Go.Proofs.YtekafhogiambaaaGreatDoor.Rd
namespace Go.Proofs.YtekafhogiambaaaGreatDoor.Rd
theorem two_eq (c : UInt8) : two c = [hx (c.toNat / 16),hx (c.toNat % 16)]:=by
 have:=c.toNat_lt
 unfold two
 rw [hex_small (by omega),hex_small (by omega)]
 rfl
theorem hexR_two {a b : Nat} (ha : a < 16) (hb : b < 16) : hexR [hx a,hx b] = some (16 * a + b):=by
 unfold hexR
 rw [if_neg (by simp)]
 simp [hexV,hexD_hx ha,hexD_hx hb]
theorem twoR_tell : ∀ s : By,twoR (s.flatMap two) = some s
 | []=>rfl
 | c :: r=>by
  have h8:=c.toNat_lt
  rw [List.flatMap_cons,two_eq]
  show twoR (hx (c.toNat / 16) :: hx (c.toNat % 16) :: r.flatMap two) = _
  rw [twoR,hexR_two (by omega) (by omega),twoR_tell r]
  have : 16 * (c.toNat / 16) + c.toNat % 16 = c.toNat:=by omega
  simp [this]
theorem two_len (s : By) : (s.flatMap two).length = 2 * s.length:=by
 induction s with
 | nil=>rfl
 | cons c r ih =>
  rw [List.flatMap_cons,List.length_append,ih,two_eq,List.length_cons]
  simp
  omega
theorem any_tell {d : Dt} {ls : List By} {n : Nat} (h : d.raw.length ≤ 65535) : ∃ r,pcsQ d ls n 4 = ([92,35],false) :: r ∧ anyR r = some d.raw:=by
 refine ⟨(dec d.raw.length,false) :: (if d.raw = [] then [] else [(d.raw.flatMap two,false)]),by simp [pcsQ],?_⟩
 unfold anyR
 simp only [plainW,Bool.false_eq_true,if_false,Option.bind_some,num_dec h (by decide)]
 by_cases h0 : d.raw = []
 · rw [h0]
   rfl
 · rw [if_neg h0]
   have e : gathR (2 * d.raw.length) [] [(d.raw.flatMap two,false)] = some (d.raw.flatMap two, []):=by simp [gathR]
   rw [e,Option.bind_some]
   simp only
   rw [if_pos (two_len d.raw),twoR_tell]
end Go.Proofs.YtekafhogiambaaaGreatDoor.Rd
namespace Go.Proofs.YtekafhogiambaaaGreatDoor.Pr
abbrev By:=List UInt8
inductive TR where
 | err (e : Int)
 | ok (ls : List By) (behind : Nat)
theorem meas {p row L a : Nat} (h : p < row) : p * (L + 2) + (L + 1 - p) < row * (L + 2) + (L + 1 - a):=by
 have h1 : (p + 1) * (L + 2) ≤ row * (L + 2):=Nat.mul_le_mul_right _ h
 rw [Nat.add_mul] at h1
 omega
def tk (b : By) (row at_ size : Nat) : TR :=
 if h : at_ < b.length then
  if (b[at_]'h).toNat = 0 then .ok [] (at_ + 1)
  else if 192 ≤ (b[at_]'h).toNat then
   if h2 : at_ + 1 < b.length then
    if _hp : ((b[at_]'h).toNat - 192) * 256 + (b[at_ + 1]'h2).toNat < row then
     match tk b (((b[at_]'h).toNat - 192) * 256 + (b[at_ + 1]'h2).toNat) (((b[at_]'h).toNat - 192) * 256 + (b[at_ + 1]'h2).toNat) size with
     | .err e=>.err e
     | .ok ls _=>.ok ls (at_ + 2)
    else .err 30
   else .err 6
  else if 64 ≤ (b[at_]'h).toNat then .err 31
  else if b.length < at_ + 1 + (b[at_]'h).toNat then .err 6
  else if 255 < size + 1 + (b[at_]'h).toNat then .err 2
  else match tk b row (at_ + 1 + (b[at_]'h).toNat) (size + 1 + (b[at_]'h).toNat) with
   | .err e=>.err e
   | .ok ls bh=>.ok ((b.drop (at_ + 1)).take (b[at_]'h).toNat :: ls) bh
 else .err 6
termination_by row * (b.length + 2) + (b.length + 1 - at_)
decreasing_by
 · exact meas (by assumption)
 · omega
def fin (acc : List By) (o : Option Nat) : TR → TR
 | .err e=>.err e
 | .ok ls bh=>.ok (acc ++ ls) (o.getD bh)
theorem fin_nil (r : TR) : fin [] none r = r:=by cases r <;> rfl
section
variable {b : By} {row at_ size : Nat}
theorem tk_out (h : ¬ at_ < b.length) : tk b row at_ size = .err 6:=by rw [tk,dif_neg h]
theorem tk_end (h : at_ < b.length) (h0 : (b[at_]'h).toNat = 0) : tk b row at_ size = .ok [] (at_ + 1):=by rw [tk,dif_pos h,if_pos h0]
theorem tk_short (h : at_ < b.length) (h1 : 192 ≤ (b[at_]'h).toNat) (h2 : ¬ at_ + 1 < b.length) : tk b row at_ size = .err 6:=by
 rw [tk,dif_pos h,if_neg (by omega),if_pos h1,dif_neg h2]
theorem tk_back (h : at_ < b.length) (h1 : 192 ≤ (b[at_]'h).toNat) (h2 : at_ + 1 < b.length) (hp : ¬ ((b[at_]'h).toNat - 192) * 256 + (b[at_ + 1]'h2).toNat < row) : tk b row at_ size = .err 30:=by
 rw [tk,dif_pos h,if_neg (by omega),if_pos h1,dif_pos h2,dif_neg hp]
theorem tk_kind (h : at_ < b.length) (h1 : 64 ≤ (b[at_]'h).toNat) (h2 : ¬ 192 ≤ (b[at_]'h).toNat) : tk b row at_ size = .err 31:=by
 rw [tk,dif_pos h,if_neg (by omega),if_neg h2,if_pos h1]
theorem tk_few (h : at_ < b.length) (h0 : (b[at_]'h).toNat ≠ 0) (h1 : ¬ 64 ≤ (b[at_]'h).toNat) (h2 : b.length < at_ + 1 + (b[at_]'h).toNat) : tk b row at_ size = .err 6:=by
 rw [tk,dif_pos h,if_neg h0,if_neg (by omega),if_neg h1,if_pos h2]
theorem tk_long (h : at_ < b.length) (h0 : (b[at_]'h).toNat ≠ 0) (h1 : ¬ 64 ≤ (b[at_]'h).toNat) (h2 : ¬ b.length < at_ + 1 + (b[at_]'h).toNat) (h3 : 255 < size + 1 + (b[at_]'h).toNat) : tk b row at_ size = .err 2:=by
 rw [tk,dif_pos h,if_neg h0,if_neg (by omega),if_neg h1,if_neg h2,if_pos h3]
theorem tk_jump (acc : List By) (o : Option Nat) (h : at_ < b.length) (h1 : 192 ≤ (b[at_]'h).toNat) (h2 : at_ + 1 < b.length) (hp : ((b[at_]'h).toNat - 192) * 256 + (b[at_ + 1]'h2).toNat < row) :
 fin acc o (tk b row at_ size) = fin acc (some (o.getD (at_ + 2))) (tk b (((b[at_]'h).toNat - 192) * 256 + (b[at_ + 1]'h2).toNat) (((b[at_]'h).toNat - 192) * 256 + (b[at_ + 1]'h2).toNat) size):=by
 rw [tk,dif_pos h,if_neg (by omega),if_pos h1,dif_pos h2,dif_pos hp]
 cases tk b (((b[at_]'h).toNat - 192) * 256 + (b[at_ + 1]'h2).toNat) (((b[at_]'h).toNat - 192) * 256 + (b[at_ + 1]'h2).toNat) size <;> rfl
theorem tk_label (acc : List By) (o : Option Nat) (h : at_ < b.length) (h0 : (b[at_]'h).toNat ≠ 0) (h1 : ¬ 64 ≤ (b[at_]'h).toNat) (h2 : ¬ b.length < at_ + 1 + (b[at_]'h).toNat) (h3 : ¬ 255 < size + 1 + (b[at_]'h).toNat) :
 fin acc o (tk b row at_ size) = fin (acc ++ [(b.drop (at_ + 1)).take (b[at_]'h).toNat]) o (tk b row (at_ + 1 + (b[at_]'h).toNat) (size + 1 + (b[at_]'h).toNat)):=by
 rw [tk,dif_pos h,if_neg h0,if_neg (by omega),if_neg h1,if_neg h2,if_neg h3]
 cases tk b row (at_ + 1 + (b[at_]'h).toNat) (size + 1 + (b[at_]'h).toNat) <;> simp [fin]
end
def tot : List By → Nat
 | []=>0
 | l :: r=>l.length + 1 + tot r
theorem fin_ok {acc ls : List By} {o : Option Nat} {bh : Nat} {r : TR} (h : fin acc o r = .ok ls bh) : ∃ ls' bh',r = .ok ls' bh' ∧ ls = acc ++ ls' ∧ bh = o.getD bh':=by
 cases r with
 | err e=>cases h
 | ok a c =>
  injection h with h1 h2
  exact ⟨a,c,rfl,h1.symm,h2.symm⟩
theorem tk_sound (b : By) : ∀ (m row at_ size : Nat) (ls : List By) (bh : Nat),row * (b.length + 2) + (b.length + 1 - at_) ≤ m → size ≤ 255 → tk b row at_ size = .ok ls bh →
 at_ < bh ∧ bh ≤ b.length ∧ (∀ l ∈ ls,1 ≤ l.length ∧ l.length ≤ 63) ∧ size + tot ls ≤ 255:=by
 intro m
 induction m with
 | zero =>
  intro row at_ size ls bh hm _ h
  by_cases hlt : at_ < b.length
  · omega
  · rw [tk_out hlt] at h;cases h
 | succ m ih =>
  intro row at_ size ls bh hm hs h
  by_cases hlt : at_ < b.length
  · by_cases h0 : (b[at_]'hlt).toNat = 0
    · rw [tk_end hlt h0] at h
      injection h with h1 h2
      subst h1 h2
      exact ⟨by omega,by omega,(fun l hl=>by cases hl),by simpa [tot] using hs⟩
    · by_cases h1 : 192 ≤ (b[at_]'hlt).toNat
      · by_cases h2 : at_ + 1 < b.length
        · by_cases hp : ((b[at_]'hlt).toNat - 192) * 256 + (b[at_ + 1]'h2).toNat < row
          · have hj:=tk_jump (size:=size) [] none hlt h1 h2 hp
            rw [fin_nil] at hj
            rw [hj] at h
            obtain ⟨ls',bh',hr,e1,e2⟩:=fin_ok h
            have hme:=meas (L:=b.length) (a:=at_) hp
            obtain ⟨_,_,hg,ht⟩:=ih _ _ _ _ _ (by omega) hs hr
            simp at e1 e2
            subst e1 e2
            exact ⟨by omega,by omega,hg,ht⟩
          · rw [tk_back hlt h1 h2 hp] at h;cases h
        · rw [tk_short hlt h1 h2] at h;cases h
      · by_cases h3 : 64 ≤ (b[at_]'hlt).toNat
        · rw [tk_kind hlt h3 h1] at h;cases h
        · by_cases h4 : b.length < at_ + 1 + (b[at_]'hlt).toNat
          · rw [tk_few hlt h0 h3 h4] at h;cases h
          · by_cases h5 : 255 < size + 1 + (b[at_]'hlt).toNat
            · rw [tk_long hlt h0 h3 h4 h5] at h;cases h
            · have hj:=tk_label (row:=row) [] none hlt h0 h3 h4 h5
              rw [fin_nil] at hj
              rw [hj] at h
              obtain ⟨ls',bh',hr,e1,e2⟩:=fin_ok h
              obtain ⟨p1,p2,hg,ht⟩:=ih _ _ _ _ _ (by omega) (by omega) hr
              have hl : ((b.drop (at_ + 1)).take (b[at_]'hlt).toNat).length = (b[at_]'hlt).toNat:=by rw [List.length_take,List.length_drop];omega
              simp at e1 e2
              subst e1 e2
              refine ⟨by omega,p2,fun l hl2=>?_,?_⟩
              · rcases List.mem_cons.1 hl2 with rfl | hl3
                · omega
                · exact hg l hl3
              · rw [tot,hl];omega
  · rw [tk_out hlt] at h;cases h
end Go.Proofs.YtekafhogiambaaaGreatDoor.Pr
namespace Go.Proofs.YtekafhogiambaaaGreatDoor.Oc
abbrev By:=List UInt8
def beb : Nat → Nat → By
 | 0,_ => []
 | k + 1,v=>UInt8.ofNat (v / 256 ^ k) :: beb k v
def num (l : By) : Nat:=l.foldl (fun a c=>a * 256 + c.toNat) 0
theorem num_snoc (l : By) (c : UInt8) : num (l ++ [c]) = num l * 256 + c.toNat:=by simp [num]
theorem fold_lin (l : By) : ∀ a : Nat,l.foldl (fun a c=>a * 256 + c.toNat) a = a * 256 ^ l.length + num l:=by
 induction l with
 | nil=>intro a;simp [num]
 | cons c t ih =>
  intro a
  have h0:=ih c.toNat
  have h1 : num (c :: t) = t.foldl (fun a c=>a * 256 + c.toNat) c.toNat:=by simp [num]
  rw [List.foldl_cons,ih,h1,h0,List.length_cons,Nat.pow_succ]
  rw [Nat.add_mul,Nat.mul_assoc,Nat.mul_comm 256 (256 ^ t.length)]
  omega
theorem num_cons (c : UInt8) (l : By) : num (c :: l) = c.toNat * 256 ^ l.length + num l:=by
 have:=fold_lin l c.toNat
 simpa [num] using this
theorem num_lt (l : By) : num l < 256 ^ l.length:=by
 induction l with
 | nil=>simp [num]
 | cons c t ih =>
  rw [num_cons,List.length_cons,Nat.pow_succ]
  have hc:=c.toNat_lt
  have h1 : c.toNat * 256 ^ t.length ≤ 255 * 256 ^ t.length:=Nat.mul_le_mul_right _ (by omega)
  omega
theorem num_take_succ (l : By) (k : Nat) (h : k < l.length) : num (l.take (k + 1)) = num (l.take k) * 256 + l[k].toNat:=by
 rw [List.take_succ_eq_append_getElem h,num_snoc]
theorem num_take_lt (l : By) (k : Nat) : num (l.take k) < 256 ^ k:=by
 have:=num_lt (l.take k)
 have h2 : (l.take k).length ≤ k:=List.length_take_le _ _
 exact Nat.lt_of_lt_of_le this (Nat.pow_le_pow_right (by omega) h2)
end Go.Proofs.YtekafhogiambaaaGreatDoor.Oc
namespace Go.Proofs.YtekafhogiambaaaGreatDoor
abbrev Tab:=List (List UInt8 × Nat)
def findI : Tab → List UInt8 → Int
 | [],_ => -1
 | (m,p) :: r,n=>if m = n then p else findI r n
namespace Pr
def rem (t : Tab) (k : By) (p : Nat) : Tab:=if 0 ≤ findI t k then t else if 16383 < p then t else t ++ [(k,p)]
def pw (plain : Bool) : Tab → Nat → List By → Tab × By
 | t,_, []=>(t, [0])
 | t,at_,l :: ls =>
  if 0 ≤ findI t (Nm.glue (l :: ls)) ∧ plain = false then (t,Oc.beb 2 (49152 + (findI t (Nm.glue (l :: ls))).toNat))
  else ((pw plain (rem t (Nm.glue (l :: ls)) at_) (at_ + 1 + l.length) ls).1,Nm.lab l ++ (pw plain (rem t (Nm.glue (l :: ls)) at_) (at_ + 1 + l.length) ls).2)
theorem tot_body (ls : List By) : tot ls = (Nm.body ls).length:=by
 induction ls with
 | nil=>rfl
 | cons l r ih=>rw [tot,Nm.body_cons,List.length_append,Nm.lab_length,ih]
theorem tot_glue (ls : List By) : (Nm.glue ls).length = tot ls + 1:=by rw [Nm.glue_length,tot_body]
def Cont (plain : Bool) (t : Tab) (a : Nat) (ls : List By) (i : Nat) (T : Tab) : Prop :=
 pw plain t a ls = ((pw plain T (a + (Nm.body (ls.take i)).length) (ls.drop i)).1,Nm.body (ls.take i) ++ (pw plain T (a + (Nm.body (ls.take i)).length) (ls.drop i)).2)
theorem Cont.zero (plain : Bool) (t : Tab) (a : Nat) (ls : List By) : Cont plain t a ls 0 t:=by simp [Cont,Nm.body]
def Ahead (t T : Tab) (ls : List By) (i : Nat) : Prop := ∀ j,i ≤ j → j < ls.length → findI T (Nm.glue (ls.drop j)) = findI t (Nm.glue (ls.drop j))
theorem Ahead.zero (t : Tab) (ls : List By) : Ahead t t ls 0:=fun _ _ _=>rfl
def Rdb (b : By) (p : Nat) (ls : List By) (row bh : Nat) : Prop := ∀ rest row' size,row ≤ row' → size + tot ls ≤ 255 → tk (b ++ rest) row' p size = .ok ls bh
def Fnd (b : By) (k : By) (p : Nat) : Prop := ∃ ls bh,k = Nm.glue ls ∧ Nm.Good ls ∧ p < b.length ∧ p ≤ 16383 ∧ Rdb b p ls p bh
def Snd (b : By) (t : Tab) : Prop := ∀ k (p : Nat),findI t k = p → Fnd b k p
theorem Snd.nil (b : By) : Snd b []:=fun k p h=>by rw [findI] at h;omega
theorem get_at {o x y : By} {c : UInt8} (h : x = c :: y) : ∃ hl : o.length < (o ++ x).length,(o ++ x)[o.length]'hl = c:=by
 subst h
 exact ⟨by simp,by simp⟩
end Pr
end Go.Proofs.YtekafhogiambaaaGreatDoor
namespace Go.Proofs.YtekafhogiambaaaGreatDoor
theorem tk_err (b : List UInt8) : ∀ (m row at_ size : Nat) (e : Int),row * (b.length + 2) + (b.length + 1 - at_) ≤ m → Pr.tk b row at_ size = .err e → e ≠ 0:=by
 intro m
 induction m with
 | zero =>
  intro row at_ size e hm h
  by_cases hlt : at_ < b.length
  · omega
  · rw [Pr.tk_out hlt] at h;cases h;decide
 | succ m ih =>
  intro row at_ size e hm h
  by_cases hlt : at_ < b.length
  · by_cases h0 : (b[at_]'hlt).toNat = 0
    · rw [Pr.tk_end hlt h0] at h;cases h
    · by_cases h1 : 192 ≤ (b[at_]'hlt).toNat
      · by_cases h2 : at_ + 1 < b.length
        · by_cases hp : ((b[at_]'hlt).toNat - 192) * 256 + (b[at_ + 1]'h2).toNat < row
          · have hj:=Pr.tk_jump (size:=size) [] none hlt h1 h2 hp
            rw [Pr.fin_nil] at hj
            rw [hj] at h
            have hme:=Pr.meas (L:=b.length) (a:=at_) hp
            refine ih _ _ size e (by omega) (?_ : Pr.tk b (((b[at_]'hlt).toNat - 192) * 256 + (b[at_ + 1]'h2).toNat) (((b[at_]'hlt).toNat - 192) * 256 + (b[at_ + 1]'h2).toNat) size = .err e)
            revert h
            generalize Pr.tk b (((b[at_]'hlt).toNat - 192) * 256 + (b[at_ + 1]'h2).toNat) (((b[at_]'hlt).toNat - 192) * 256 + (b[at_ + 1]'h2).toNat) size = r
            intro h
            cases r with
            | err e2=>exact h
            | ok _ _=>cases h
          · rw [Pr.tk_back hlt h1 h2 hp] at h;cases h;decide
        · rw [Pr.tk_short hlt h1 h2] at h;cases h;decide
      · by_cases h3 : 64 ≤ (b[at_]'hlt).toNat
        · rw [Pr.tk_kind hlt h3 h1] at h;cases h;decide
        · by_cases h4 : b.length < at_ + 1 + (b[at_]'hlt).toNat
          · rw [Pr.tk_few hlt h0 h3 h4] at h;cases h;decide
          · by_cases h5 : 255 < size + 1 + (b[at_]'hlt).toNat
            · rw [Pr.tk_long hlt h0 h3 h4 h5] at h;cases h;decide
            · have hj:=Pr.tk_label (row:=row) [] none hlt h0 h3 h4 h5
              rw [Pr.fin_nil] at hj
              rw [hj] at h
              refine ih row (at_ + 1 + (b[at_]'hlt).toNat) (size + 1 + (b[at_]'hlt).toNat) e (by omega) ?_
              revert h
              generalize Pr.tk b row (at_ + 1 + (b[at_]'hlt).toNat) (size + 1 + (b[at_]'hlt).toNat) = r
              intro h
              cases r with
              | err e2=>exact h
              | ok _ _=>cases h
  · rw [Pr.tk_out hlt] at h;cases h;decide
end Go.Proofs.YtekafhogiambaaaGreatDoor
namespace Go.Proofs.YtekafhogiambaaaGreatDoor.Rd
def tkN (L : By) (i : Nat) : Option (By × Nat):=match Pr.tk L i i 1 with
 | .ok ls bh=>some (Nm.glue ls,bh)
 | .err _=>none
abbrev TS:=Nat × Dt × Nat
def tkP (L : By) (E p : Nat) (s : TS) : Option TS :=
 if p = 0 then some s
 else if p ≤ 4 then (if E - s.1 ≤ 65535 then some (E,{ s.2.1 with raw:=(L.drop s.1).take (E - s.1) },s.2.2) else none)
 else if p ≤ 6 then (tkN L s.1).bind fun x=>if x.2 ≤ E then some (x.2,{ s.2.1 with host:=x.1 },s.2.2) else none
 else if p = 7 then (tkN L s.1).bind fun x=>if x.2 ≤ E then some (x.2,{ s.2.1 with mail:=x.1 },s.2.2) else none
 else if p = 8 then (if s.1 + 2 ≤ E then some (s.1 + 2,setN s.2.1 s.2.2 (Oc.num ((L.drop s.1).take 2)),s.2.2 + 1) else none)
 else (if s.1 + 4 ≤ E then some (s.1 + 4,setN s.2.1 s.2.2 (Oc.num ((L.drop s.1).take 4)),s.2.2 + 1) else none)
def tkAll (L : By) (E : Nat) : List Nat → TS → Option TS
 | [],s=>some s
 | p :: r,s=>(tkP L E p s).bind (tkAll L E r)
def tkE (L : By) (p : Nat) (s : TS) : Int:=if p = 5 ∨ p = 6 ∨ p = 7 then (match Pr.tk L s.1 s.1 1 with
 | .err e=>e
 | .ok _ _=>40) else 40
def tkEs (L : By) (E : Nat) : List Nat → TS → Int
 | [],_=>40
 | p :: r,s=>match tkP L E p s with
  | some s1=>tkEs L E r s1
  | none=>tkE L p s
def takeR (t : Nat) (L : By) (i n : Nat) : Option Dt:=(tkAll L (i + n) (parts t) (i,dt0,0)).bind fun s=>if s.1 = i + n ∧ ok t s.2.1 = true then some s.2.1 else none
theorem tkAll_app (L : By) (E : Nat) : ∀ (a b : List Nat) (s : TS),tkAll L E (a ++ b) s = (tkAll L E a s).bind (tkAll L E b)
 | [],b,s=>rfl
 | p :: a,b,s=>by
  rw [List.cons_append,tkAll,tkAll]
  cases tkP L E p s with
  | none=>rfl
  | some s1=>exact tkAll_app L E a b s1
def takeE (t : Nat) (L : By) (i n : Nat) : Int:=tkEs L (i + n) (parts t) (i,dt0,0)
theorem tkEs_app (L : By) (E : Nat) : ∀ (a b : List Nat) (s s1 : TS),tkAll L E a s = some s1 → tkEs L E (a ++ b) s = tkEs L E b s1
 | [],b,s,s1,h=>by
  rw [tkAll] at h
  injection h with h
  rw [h]
  rfl
 | p :: a,b,s,s1,h=>by
  rw [tkAll] at h
  rw [List.cons_append,tkEs]
  cases hp : tkP L E p s with
  | none=>rw [hp] at h;cases h
  | some s2 =>
   rw [hp,Option.bind_some] at h
   exact tkEs_app L E a b s2 s1 h
theorem tkE_pos (L : By) (p : Nat) (s : TS) : tkE L p s ≠ 0:=by
 unfold tkE
 split
 · split
   · rename_i e he
     exact tk_err L _ _ _ _ e (Nat.le_refl _) he
   · decide
 · decide
theorem tkEs_pos (L : By) (E : Nat) : ∀ (ps : List Nat) (s : TS),tkEs L E ps s ≠ 0
 | [],s=>by rw [tkEs];decide
 | p :: ps,s=>by
  rw [tkEs]
  split
  · exact tkEs_pos L E ps _
  · exact tkE_pos L p s
theorem takeE_pos (t : Nat) (L : By) (i n : Nat) : takeE t L i n ≠ 0:=tkEs_pos _ _ _ _
structure Fine (L : By) (E n : Nat) (s : TS) : Prop where
 le : s.1 ≤ E
 nums : s.2.2 = n
 raw : s.2.1.raw.length ≤ 65535
 host : s.2.1.host.length ≤ 255
 mail : s.2.1.mail.length ≤ 255
 n0 : s.2.1.n0 ≤ 4294967295
 n1 : s.2.1.n1 ≤ 4294967295
 n2 : s.2.1.n2 ≤ 4294967295
 n3 : s.2.1.n3 ≤ 4294967295
 n4 : s.2.1.n4 ≤ 4294967295
theorem tkN_len {L : By} {i : Nat} {x : By × Nat} (h : tkN L i = some x) : x.1.length ≤ 255 ∧ i < x.2 ∧ x.2 ≤ L.length:=by
 unfold tkN at h
 split at h
 · rename_i ls bh hk
   injection h with h
   subst h
   obtain ⟨a,b,c,d⟩:=Pr.tk_sound L _ _ _ _ ls bh (Nat.le_refl _) (by omega) hk
   have hg:=Pr.tot_glue ls
   exact ⟨by show (Nm.glue ls).length ≤ 255;omega,a,b⟩
 · cases h
theorem setN_fine (d : Dt) (k v : Nat) (hv : v ≤ 4294967295) (h : d.n0 ≤ 4294967295 ∧ d.n1 ≤ 4294967295 ∧ d.n2 ≤ 4294967295 ∧ d.n3 ≤ 4294967295 ∧ d.n4 ≤ 4294967295) :
 (setN d k v).n0 ≤ 4294967295 ∧ (setN d k v).n1 ≤ 4294967295 ∧ (setN d k v).n2 ≤ 4294967295 ∧ (setN d k v).n3 ≤ 4294967295 ∧ (setN d k v).n4 ≤ 4294967295:=by
 unfold setN
 split <;> simp_all
theorem setN_rest (d : Dt) (k v : Nat) : (setN d k v).raw = d.raw ∧ (setN d k v).host = d.host ∧ (setN d k v).mail = d.mail:=by
 unfold setN
 split <;> exact ⟨rfl,rfl,rfl⟩
theorem num_le2 (l : By) : Oc.num (l.take 2) ≤ 65535:=by
 have:=Oc.num_take_lt l 2
 omega
theorem num_le4 (l : By) : Oc.num (l.take 4) ≤ 4294967295:=by
 have:=Oc.num_take_lt l 4
 omega
theorem tkP_fine {L : By} {E n p : Nat} {s s' : TS} (h : Fine L E n s) (hs : tkP L E p s = some s') : Fine L E (if p = 8 ∨ 9 ≤ p then n + 1 else n) s':=by
 obtain ⟨h1,h2,h3,h4,h5,h6,h7,h8,h9,h10⟩:=h
 unfold tkP at hs
 split at hs
 · injection hs with hs
   subst hs
   rw [if_neg (by omega)]
   exact ⟨h1,h2,h3,h4,h5,h6,h7,h8,h9,h10⟩
 split at hs
 · split at hs
   · injection hs with hs
     subst hs
     rw [if_neg (by omega)]
     exact ⟨Nat.le_refl _,h2,by show ((L.drop s.1).take (E - s.1)).length ≤ 65535;rw [List.length_take];omega,h4,h5,h6,h7,h8,h9,h10⟩
   · cases hs
 split at hs
 · rw [Option.bind_eq_some_iff] at hs
   obtain ⟨x,hx,hs⟩:=hs
   have hl:=tkN_len hx
   split at hs
   · injection hs with hs
     subst hs
     rw [if_neg (by omega)]
     exact ⟨by assumption,h2,h3,hl.1,h5,h6,h7,h8,h9,h10⟩
   · cases hs
 split at hs
 · rw [Option.bind_eq_some_iff] at hs
   obtain ⟨x,hx,hs⟩:=hs
   have hl:=tkN_len hx
   split at hs
   · injection hs with hs
     subst hs
     rw [if_neg (by omega)]
     exact ⟨by assumption,h2,h3,h4,hl.1,h6,h7,h8,h9,h10⟩
   · cases hs
 split at hs
 · split at hs
   · injection hs with hs
     subst hs
     obtain ⟨e1,e2,e3⟩:=setN_rest s.2.1 s.2.2 (Oc.num ((L.drop s.1).take 2))
     obtain ⟨q0,q1,q2,q3,q4⟩:=setN_fine s.2.1 s.2.2 (Oc.num ((L.drop s.1).take 2)) (by have:=num_le2 (L.drop s.1);omega) ⟨h6,h7,h8,h9,h10⟩
     rw [if_pos (by omega)]
     exact ⟨by assumption,by rw [← h2],by rw [e1];exact h3,by rw [e2];exact h4,by rw [e3];exact h5,q0,q1,q2,q3,q4⟩
   · cases hs
 · split at hs
   · injection hs with hs
     subst hs
     obtain ⟨e1,e2,e3⟩:=setN_rest s.2.1 s.2.2 (Oc.num ((L.drop s.1).take 4))
     obtain ⟨q0,q1,q2,q3,q4⟩:=setN_fine s.2.1 s.2.2 (Oc.num ((L.drop s.1).take 4)) (num_le4 _) ⟨h6,h7,h8,h9,h10⟩
     rw [if_pos (by omega)]
     exact ⟨by assumption,by rw [← h2],by rw [e1];exact h3,by rw [e2];exact h4,by rw [e3];exact h5,q0,q1,q2,q3,q4⟩
   · cases hs
theorem fine0 {L : By} {E i : Nat} (h : i ≤ E) : Fine L E 0 (i,dt0,0):=⟨h,rfl,by simp [dt0],by simp [dt0],by simp [dt0],by simp [dt0],by simp [dt0],by simp [dt0],by simp [dt0],by simp [dt0]⟩
theorem tkAll_fine {L : By} {E : Nat} : ∀ (ps : List Nat) (n : Nat) (s s' : TS),(∀ p ∈ ps,p ≤ 9) → Fine L E n s → tkAll L E ps s = some s' → Fine L E (n + nums ps) s'
 | [],n,s,s',_,h,hs=>by
  rw [tkAll] at hs
  injection hs with hs
  subst hs
  exact h
 | p :: ps,n,s,s',h9,h,hs=>by
  rw [tkAll,Option.bind_eq_some_iff] at hs
  obtain ⟨s1,h1,h2⟩:=hs
  have a:=tkP_fine h h1
  have b:=tkAll_fine ps _ s1 s' (fun q hq=>h9 q (by simp [hq])) a h2
  have hp:=h9 p (by simp)
  have e : nums (p :: ps) = (if p = 8 ∨ 9 ≤ p then 1 else 0) + nums ps:=by
   unfold nums
   rw [List.filter_cons]
   rcases (by omega : p = 8 ∨ p = 9 ∨ p < 8) with rfl | rfl | hlt
   · simp;omega
   · simp;omega
   · have q1 : (p == 8) = false:=beq_eq_false_iff_ne.2 (by omega)
     have q2 : (p == 9) = false:=beq_eq_false_iff_ne.2 (by omega)
     rw [if_neg (show ¬ (p = 8 ∨ 9 ≤ p) by omega),q1,q2]
     simp
  rw [e]
  have : (if p = 8 ∨ 9 ≤ p then n + 1 else n) + nums ps = n + ((if p = 8 ∨ 9 ≤ p then 1 else 0) + nums ps):=by split <;> omega
  rw [← this]
  exact b
theorem takeR_ok {t : Nat} {L : By} {i n : Nat} {d : Dt} (h : takeR t L i n = some d) : ok t d = true ∧ Fine L (i + n) (nums (parts t)) (i + n,d,nums (parts t)):=by
 unfold takeR at h
 rw [Option.bind_eq_some_iff] at h
 obtain ⟨s,hs,h⟩:=h
 split at h
 · rename_i hc
   injection h with h
   subst h
   have f:=tkAll_fine (parts t) 0 _ s (fun p hp=>parts_lt t p hp) (fine0 (Nat.le_add_right i n)) hs
   rw [Nat.zero_add] at f
   exact ⟨hc.2,Nat.le_refl _,rfl,f.raw,f.host,f.mail,f.n0,f.n1,f.n2,f.n3,f.n4⟩
 · cases h
theorem takeR_raw {t : Nat} {raw : By} (hp : parts t = [4,0,0,0,0,0,0]) (hl : raw.length ≤ 65535) : takeR t raw 0 raw.length = some ⟨raw, [], [],0,0,0,0,0⟩:=by
 have hk : ok t ⟨raw, [], [],0,0,0,0,0⟩ = true:=by
  rw [ok_parts,hp]
  simp [fitAll,fit,bare,hasRaw,hasHost,hasMail,nums,hl]
 unfold takeR
 rw [hp]
 have e : tkAll raw (0 + raw.length) [4,0,0,0,0,0,0] (0,dt0,0) = some (0 + raw.length,⟨raw, [], [],0,0,0,0,0⟩,0):=by
  simp [tkAll,tkP,dt0,hl]
 rw [e,Option.bind_some,if_pos ⟨rfl,hk⟩]
end Go.Proofs.YtekafhogiambaaaGreatDoor.Rd
namespace Go.Proofs.YtekafhogiambaaaGreatDoor.Rd
def readR (o : By) (t : Nat) (ws : List W2) : Option Dt:=match ws with
 | []=>knownR o t []
 | x :: r=>if x.1 = [92,35] ∧ x.2 = false then ((anyR r).bind fun raw=>takeR t raw 0 raw.length) else knownR o t (x :: r)
def foldD (t : Nat) (d : Dt) : Dt:={ d with host:=if isHost t then Nm.fold d.host else d.host,mail:=if isMail t then Nm.fold d.mail else d.mail }
theorem known_tell2 {t : Nat} {d : Dt} {ls : List By} {o : By} (ho : nm o = true) (hN : ∀ i,hasN d i ≤ 4294967295) (hls : t = 16 → tx d.raw = some ls) (h : ok t d = true) (ht : parts t ≠ [4,0,0,0,0,0,0]) : knownR o t (tellQ d ls (parts t) 0) = some d:=by
 rw [ok_parts,Bool.and_eq_true] at h
 obtain ⟨hf,hb⟩:=h
 unfold knownR
 revert hf hb ht hls
 obtain ⟨r,hh,m,n0,n1,n2,n3,n4⟩:=d
 refine by_type (P:=fun t=>(t = 16 → tx r = some ls) → parts t ≠ [4,0,0,0,0,0,0] → fitAll ⟨r,hh,m,n0,n1,n2,n3,n4⟩ (parts t) 0 = true → bare (parts t) ⟨r,hh,m,n0,n1,n2,n3,n4⟩ = true → ((rdAll o (parts t) (tellQ ⟨r,hh,m,n0,n1,n2,n3,n4⟩ ls (parts t) 0,dt0,0)).bind fun s=>if s.1 = [] then some s.2.1 else none) = some ⟨r,hh,m,n0,n1,n2,n3,n4⟩) ?_ ?_ ?_ ?_ ?_ ?_ ?_ ?_ ?_ (fun t a b c d' e f g i j _ h1=>absurd (parts_other a b c d' e f g i j) h1) t
 case refine_7 =>
  intro hls _ hf hb
  have hls:=hls rfl
  have hf3 : fit 3 ⟨r,hh,m,n0,n1,n2,n3,n4⟩ 0 = true:=by
   have : fitAll ⟨r,hh,m,n0,n1,n2,n3,n4⟩ [3,0,0,0,0,0,0] 0 = true:=hf
   rw [fitAll,Bool.and_eq_true] at this
   exact this.1
  rw [show parts 16 = [3,0,0,0,0,0,0] from rfl] at hb ⊢
  rw [texts_tell hf3 hls,Option.bind_some]
  simp [bare,hasRaw,hasHost,hasMail,nums] at hb
  simp [dt0,hb]
 all_goals
  intro _ _ hf hb
  obtain ⟨m',hm⟩:=rdAll_tell (ls:=ls) ho hN (e:=dt0) (by decide) hf
  rw [hm,Option.bind_some]
  clear hm hf
  simp [parts,bare,hasRaw,hasHost,hasMail,nums] at hb
  simp [parts,updAll,updP,setN,hasN,dt0,hb]
theorem text_end (n : By) : Nm.text n = [] ∨ ∃ p,Nm.text n = p ++ [46]:=by
 unfold Nm.text
 cases Nm.split n with
 | none=>exact .inl rfl
 | some ls =>
  cases ls with
  | nil=>exact .inr ⟨[],rfl⟩
  | cons a r =>
   show Nm.textL (a :: r) = [] ∨ ∃ p,Nm.textL (a :: r) = p ++ [46]
   refine .inr ?_
   unfold Nm.textL
   have : ∀ ls : List By,ls ≠ [] → ∃ p,(ls.flatMap fun l=>Nm.esc false l ++ [46]) = p ++ [46]:=by
    intro ls
    induction ls with
    | nil=>intro h;exact absurd rfl h
    | cons a r ih =>
     intro _
     cases r with
     | nil=>exact ⟨Nm.esc false a,by simp⟩
     | cons b r =>
      obtain ⟨p,hp⟩:=ih (by simp)
      exact ⟨Nm.esc false a ++ [46] ++ p,by rw [List.flatMap_cons,hp];simp⟩
   exact this _ (by simp)
theorem text_no (n : By) : Nm.text n ≠ [92,35]:=by
 intro h
 rcases text_end n with e | ⟨p,e⟩
 · rw [e] at h;cases h
 · rw [e] at h
   have:=congrArg List.getLast? h
   simp at this
theorem no92 {p : By} (h : ∀ c ∈ p,c ≠ 92) : p ≠ [92,35]:=fun e=>h 92 (by rw [e];simp) rfl
theorem dec_no (n : Nat) : dec n ≠ [92,35]:=no92 fun _ hc=>(digit_ne (dec_mem hc)).2.2.1
theorem four_no (s : By) : joinB 46 (s.map fun c=>dec c.toNat) ≠ [92,35]:=no92 fun c hc=>by
 rcases joinB_mem hc with rfl | ⟨p,hp,hc⟩
 · decide
 · obtain ⟨x,_,rfl⟩:=List.mem_map.1 hp
   exact (digit_ne (dec_mem hc)).2.2.1
theorem eight_no (s : By) : joinB 58 ((List.range 8).map fun i=>hex (grp s i)) ≠ [92,35]:=no92 fun c hc=>by
 rcases joinB_mem hc with rfl | ⟨p,hp,hc⟩
 · decide
 · obtain ⟨x,_,rfl⟩:=List.mem_map.1 hp
   exact (hex_mem hc).2.2.1
theorem first_no (d : Dt) (ls : List By) {t : Nat} (ht : parts t ≠ [4,0,0,0,0,0,0]) : ∀ x r,tellQ d ls (parts t) 0 = x :: r → ¬ (x.1 = [92,35] ∧ x.2 = false):=by
 revert ht
 refine by_type (P:=fun t=>parts t ≠ [4,0,0,0,0,0,0] → ∀ x r,tellQ d ls (parts t) 0 = x :: r → ¬ (x.1 = [92,35] ∧ x.2 = false)) ?_ ?_ ?_ ?_ ?_ ?_ ?_ ?_ ?_ (fun t a b c d' e f g i j h1=>absurd (parts_other a b c d' e f g i j) h1) t
 case refine_7 =>
  intro _ x r h
  have e : tellQ d ls (parts 16) 0 = ls.map fun l=>(Nm.esc true l,true):=by simp [parts,tellQ,pcsQ]
  rw [e] at h
  cases ls with
  | nil=>cases h
  | cons a l =>
   injection h with h1 h2
   rw [← h1]
   simp
 all_goals
  intro _ x r h
  simp [parts,tellQ,pcsQ] at h
  rw [← h.1]
  simp [dec_no,four_no,eight_no,text_no]
end Go.Proofs.YtekafhogiambaaaGreatDoor.Rd
namespace Go.Proofs.YtekafhogiambaaaGreatDoor.Ma
open Rd (By Dt)
structure Er where
 e : Nat
 line : Nat
 col : Nat
abbrev Ans (α : Type):=Except Er α
def at_ (x : Tk.Wd) (e : Nat) : Er:=⟨e,x.line,x.col⟩
def kw (x : Tk.Wd) : By:=if x.quoted then [] else Nm.fold x.text
def num (x : Tk.Wd) : Option Nat:=if x.quoted then none else Rd.num x.text 4294967295
def isClass (x : Tk.Wd) : Bool:=kw x == [105,110] || (kw x == [99,104] || (kw x == [99,115] || kw x == [104,115]))
def name (o : By) (x : Tk.Wd) : Option By:=if x.quoted then none else Rd.nameR o x.text
def tc (fx : Bool) : List Tk.Wd → Nat → Nat → Bool → Bool → Ans (Nat × Nat × List Tk.Wd)
 | [],h,t,_,_=>.ok (h,t, [])
 | w :: r,h,t,bt,bc =>
  if (num w).isSome ∧ bt = false then (if (num w).getD 0 ≤ 2147483647 then tc fx r (if fx then h else (num w).getD 0) ((num w).getD 0) true bc else .error (at_ w 91))
  else if isClass w ∧ bc = false then (if kw w = [105,110] then tc fx r h t bt true else .error (at_ w 92))
  else .ok (h,t,w :: r)
structure Rc where
 nm : By
 ty : Nat
 ttl : Nat
 d : Dt
structure S where
 o : By
 ttl : Nat
 fx : Bool
 recs : List Rc
def w2 (x : Tk.Wd) : Rd.W2:=(x.text,x.quoted)
def owner (s : S) (f : Tk.Wd) (bl : Bool) (ws : List Tk.Wd) : Ans (By × List Tk.Wd) :=
 if bl then (match s.recs.getLast? with
  | some r=>.ok (r.nm,ws)
  | none=>.error (at_ f 90))
 else match ws with
  | []=>.error (at_ f 90)
  | x :: r=>match name s.o x with
   | some n=>.ok (Nm.fold n,r)
   | none=>.error (at_ f 90)
def tail (o : By) (f : Tk.Wd) : List Tk.Wd → Ans (Nat × Dt)
 | []=>.error (at_ f 93)
 | k :: r=>if k.quoted then .error (at_ k 93) else match Rd.tyOf k.text with
  | none=>.error (at_ k 93)
  | some t=>match Rd.readR o t (r.map w2) with
   | none=>.error (at_ k 41)
   | some d=>.ok (t,Rd.foldD t d)
def record (s : S) (f : Tk.Wd) (bl : Bool) (ws : List Tk.Wd) : Ans (Nat × Rc):=match owner s f bl ws with
 | .error x=>.error x
 | .ok (n,ws)=>match tc s.fx ws s.ttl s.ttl false false with
  | .error x=>.error x
  | .ok (h,t,ws)=>match tail s.o f ws with
   | .error x=>.error x
   | .ok (ty,d)=>.ok (h,⟨n,ty,t,d⟩)
def isDir (bl : Bool) (x : Tk.Wd) : Bool := !bl && (match kw x with
 | c :: _=>c == 36
 | []=>false)
def directive (s : S) (k : Tk.Wd) : List Tk.Wd → Ans S
 | [x]=>if kw k = [36,111,114,105,103,105,110] then (match name s.o x with
  | some n=>.ok { s with o:=n }
  | none=>.error (at_ k 94))
  else if kw k = [36,116,116,108] then (match num x with
   | some v=>if v ≤ 2147483647 then .ok { s with ttl:=v,fx:=true } else .error (at_ k 94)
   | none=>.error (at_ k 94))
  else .error (at_ k 94)
 | _=>.error (at_ k 94)
def entry (s : S) (bl : Bool) (x : Tk.Wd) (r : List Tk.Wd) : Ans S :=
 if isDir bl x then directive s x r
 else if s.recs.length = 4096 then .error (at_ x 2)
 else match record s x bl (x :: r) with
  | .error e=>.error e
  | .ok (h,c)=>.ok { s with ttl:=h,recs:=s.recs ++ [c] }
def entries : S → List Tk.En → Ans S
 | s, []=>.ok s
 | s,e :: r=>match e.words with
  | []=>.error ⟨0,0,0⟩
  | x :: ws=>match entry s e.blank x ws with
   | .error e=>.error e
   | .ok s=>entries s r
end Go.Proofs.YtekafhogiambaaaGreatDoor.Ma
