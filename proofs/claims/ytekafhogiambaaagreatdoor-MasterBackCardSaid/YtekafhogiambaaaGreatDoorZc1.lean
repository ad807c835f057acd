/- Texts of the proofs, merged. -/
import Derived.Lib.Hide
namespace Go.Proofs.YtekafhogiambaaaGreatDoor.Tk
abbrev By:=List UInt8
def blank (c : UInt8) : Bool:=c.toNat == 32 || c.toNat == 9 || c.toNat == 13
def ends (c : UInt8) : Bool:=c.toNat == 10 || c.toNat == 59 || c.toNat == 40 || c.toNat == 41 || c.toNat == 34 || blank c
def tlen : By → Nat
 | c :: d :: _=>if c.toNat = 92 ∧ d.toNat ≠ 10 then 2 else 1
 | _=>1
def bareLen : By → Nat
 | []=>0
 | [c]=>if ends c then 0 else 1
 | c :: d :: r=>if ends c then 0 else if c.toNat = 92 ∧ d.toNat ≠ 10 then 2 + bareLen r else 1 + bareLen (d :: r)
def quoLen : By → Option Nat
 | []=>none
 | [c]=>if c.toNat = 34 then some 0 else none
 | c :: d :: r=>if c.toNat = 10 then none else if c.toNat = 34 then some 0 else
  if c.toNat = 92 ∧ d.toNat ≠ 10 then (quoLen r).map (2 + ·) else (quoLen (d :: r)).map (1 + ·)
def remLen : By → Nat
 | []=>0
 | c :: r=>if c.toNat = 10 then 0 else 1 + remLen r
inductive Pc where
 | ch (c : UInt8)
 | rem (b : By)
 | bare (b : By)
 | quo (b : By)
 | bad (b : By)
deriving DecidableEq
def lex : Nat → By → List Pc
 | 0,_ => []
 | _ + 1, [] => []
 | n + 1,c :: r =>
  if c.toNat = 59 then .rem (c :: r.take (remLen r)) :: lex n (r.drop (remLen r))
  else if c.toNat = 34 then match quoLen r with
   | none => [.bad (c :: r)]
   | some k=>.quo (r.take k) :: lex n (r.drop (k + 1))
  else if ends c then .ch c :: lex n r
  else .bare ((c :: r).take (bareLen (c :: r))) :: lex n ((c :: r).drop (bareLen (c :: r)))
theorem bareLen_pos {c : UInt8} {r : By} (h : ends c = false) : 1 ≤ bareLen (c :: r):=by
 cases r with
 | nil=>simp [bareLen,h]
 | cons d r =>
  rw [bareLen]
  simp only [h,Bool.false_eq_true,if_false]
  split <;> omega
theorem bareLen_end {c : UInt8} {r : By} (h : ends c = true) : bareLen (c :: r) = 0:=by
 cases r <;> simp [bareLen,h]
theorem bareLen_step {c : UInt8} {r : By} (h : ends c = false) : bareLen (c :: r) = tlen (c :: r) + bareLen ((c :: r).drop (tlen (c :: r))):=by
 cases r with
 | nil=>simp [bareLen,h,tlen]
 | cons d r =>
  rw [bareLen]
  simp only [h,Bool.false_eq_true,if_false,tlen]
  split <;> simp
theorem quoLen_lf {c : UInt8} {r : By} (h : c.toNat = 10) : quoLen (c :: r) = none:=by
 cases r with
 | nil=>simp [quoLen,h]
 | cons d r=>simp [quoLen,h]
theorem quoLen_q {c : UInt8} {r : By} (h : c.toNat = 34) : quoLen (c :: r) = some 0:=by
 cases r with
 | nil=>simp [quoLen,h]
 | cons d r=>simp [quoLen,h]
theorem quoLen_step {c : UInt8} {r : By} (h : c.toNat ≠ 10) (h2 : c.toNat ≠ 34) : quoLen (c :: r) = (quoLen ((c :: r).drop (tlen (c :: r)))).map (tlen (c :: r) + ·):=by
 cases r with
 | nil=>simp [quoLen,h2,tlen]
 | cons d r =>
  rw [quoLen]
  simp only [h,h2,if_false,tlen]
  split <;> simp
theorem tlen_le {c : UInt8} {r : By} : tlen (c :: r) ≤ (c :: r).length:=by
 cases r with
 | nil=>simp [tlen]
 | cons d r=>simp only [tlen,List.length_cons];split <;> omega
theorem remLen_le : ∀ (l : By),remLen l ≤ l.length
 | []=>by simp [remLen]
 | c :: r=>by
  have:=remLen_le r
  unfold remLen
  split <;> simp;omega
theorem lex_fuel : ∀ (n m : Nat) (l : By),l.length ≤ n → l.length ≤ m → lex n l = lex m l:=by
 intro n
 induction n with
 | zero =>
  intro m l h _
  obtain rfl : l = []:=List.eq_nil_of_length_eq_zero (by omega)
  cases m <;> rfl
 | succ n ih =>
  intro m l h1 h2
  cases l with
  | nil=>cases m <;> rfl
  | cons c r =>
   obtain ⟨m,rfl⟩ : ∃ k,m = k + 1:=⟨m - 1,by simp at h2;omega⟩
   simp only [List.length_cons] at h1 h2
   rw [lex,lex]
   split
   · rw [ih m _ (by simp;omega) (by simp;omega)]
   split
   · split
     · rfl
     · rw [ih m _ (by simp;omega) (by simp;omega)]
   split
   · rw [ih m _ (by omega) (by omega)]
   · rename_i h
     have:=bareLen_pos (r:=r) (by simpa using h)
     rw [ih m _ (by simp;omega) (by simp;omega)]
def lx (l : By) : List Pc:=lex l.length l
theorem lex_lx {n : Nat} {l : By} (h : l.length ≤ n) : lex n l = lx l:=lex_fuel _ _ _ h (Nat.le_refl _)
theorem lx_nil : lx [] = []:=rfl
theorem lx_rem {c : UInt8} {r : By} (h : c.toNat = 59) : lx (c :: r) = .rem (c :: r.take (remLen r)) :: lx (r.drop (remLen r)):=by
 conv=>lhs;unfold lx
 rw [List.length_cons,lex,if_pos h,lex_lx (by simp)]
theorem lx_bad {c : UInt8} {r : By} (h : c.toNat = 34) (hq : quoLen r = none) : lx (c :: r) = [.bad (c :: r)]:=by
 conv=>lhs;unfold lx
 rw [List.length_cons,lex,if_neg (by omega),if_pos h,hq]
theorem lx_quo {c : UInt8} {r : By} {k : Nat} (h : c.toNat = 34) (hq : quoLen r = some k) : lx (c :: r) = .quo (r.take k) :: lx (r.drop (k + 1)):=by
 conv=>lhs;unfold lx
 rw [List.length_cons,lex,if_neg (by omega),if_pos h,hq]
 simp only
 rw [lex_lx (by simp)]
theorem ends_59 {c : UInt8} (h : c.toNat = 59) : ends c = true:=by simp [ends,h]
theorem ends_34 {c : UInt8} (h : c.toNat = 34) : ends c = true:=by simp [ends,h]
theorem lx_ch {c : UInt8} {r : By} (h1 : c.toNat ≠ 59) (h2 : c.toNat ≠ 34) (h : ends c = true) : lx (c :: r) = .ch c :: lx r:=by
 conv=>lhs;unfold lx
 rw [List.length_cons,lex,if_neg h1,if_neg h2,if_pos h,lex_lx (Nat.le_refl _)]
theorem lx_bare {c : UInt8} {r : By} (h : ends c = false) : lx (c :: r) = .bare ((c :: r).take (bareLen (c :: r))) :: lx ((c :: r).drop (bareLen (c :: r))):=by
 have hp:=bareLen_pos (r:=r) h
 conv=>lhs;unfold lx
 rw [List.length_cons,lex,if_neg (fun e=>by rw [ends_59 e] at h;cases h),if_neg (fun e=>by rw [ends_34 e] at h;cases h),if_neg (by simp [h]),lex_lx (by simp only [List.length_drop,List.length_cons];omega)]
structure Wd where
 text : By
 quoted : Bool
 line : Nat
 col : Nat
deriving DecidableEq
structure En where
 blank : Bool
 line : Nat
 words : List Wd
deriving DecidableEq
inductive Rs where
 | err (line col e : Nat)
 | ok (es : List En)
deriving DecidableEq
structure St where
 line : Nat
 col : Nat
 dep : Nat
 fl : Nat
 fc : Nat
 bl : Bool
 el : Nat
 ws : List Wd
 es : List En
def St.done (s : St) : List En:=if s.ws = [] then s.es else s.es ++ [⟨s.bl,s.el,s.ws⟩]
def hb : By → Bool
 | []=>false
 | c :: _=>blank c
def hp : List Pc → Bool
 | .ch c :: _=>blank c
 | _=>false
def eQuote : Nat:=80
def eParen : Nat:=81
def St.nl (s : St) (b : Bool) : St :=
 if s.dep = 0 then ⟨s.line + 1,1,0,s.fl,s.fc,b,s.line + 1, [],s.done⟩ else { s with line:=s.line + 1,col:=1 }
def St.op (s : St) : St:={ s with dep:=s.dep + 1,fl:=if s.dep = 0 then s.line else s.fl,fc:=if s.dep = 0 then s.col else s.fc,col:=s.col + 1 }
def St.cl (s : St) : St:={ s with dep:=s.dep - 1,col:=s.col + 1 }
def St.go (s : St) (n : Nat) : St:={ s with col:=s.col + n }
def St.put (s : St) (b : By) (q : Bool) (n : Nat) : St:={ s with ws:=s.ws ++ [⟨b,q,s.line,s.col⟩],col:=s.col + n }
def play : List Pc → St → Rs
 | [],s=>if s.dep = 0 then .ok s.done else .err s.fl s.fc eParen
 | .bad _ :: _,s=>.err s.line s.col eQuote
 | .ch c :: ps,s =>
  if c.toNat = 10 then play ps (s.nl (hp ps))
  else if c.toNat = 40 then play ps s.op
  else if c.toNat = 41 then if s.dep = 0 then .err s.line s.col eParen else play ps s.cl
  else play ps (s.go 1)
 | .rem b :: ps,s=>play ps (s.go b.length)
 | .bare b :: ps,s=>play ps (s.put b false b.length)
 | .quo b :: ps,s=>play ps (s.put b true (b.length + 2))
def start (l : By) : St:=⟨1,1,0,0,0,hb l,1, [], []⟩
def tells (l : By) : Rs:=play (lx l) (start l)
theorem blank_ends {c : UInt8} (h : blank c = true) : ends c = true:=by simp [ends,h]
theorem hp_lx (l : By) : hp (lx l) = hb l:=by
 cases l with
 | nil=>rfl
 | cons c r =>
  by_cases h1 : c.toNat = 59
  · rw [lx_rem h1];simp [hp,hb,blank,h1]
  by_cases h2 : c.toNat = 34
  · rcases hq : quoLen r with _ | k
    · rw [lx_bad h2 hq];simp [hp,hb,blank,h2]
    · rw [lx_quo h2 hq];simp [hp,hb,blank,h2]
  by_cases h3 : ends c = true
  · rw [lx_ch h1 h2 h3];rfl
  · rw [lx_bare (by simpa using h3)]
    have : blank c = false:=by
     rcases hb' : blank c with _ | _
     · rfl
     · exact absurd (blank_ends hb') h3
    simp [hp,hb,this]
end Go.Proofs.YtekafhogiambaaaGreatDoor.Tk
namespace Go.Proofs.YtekafhogiambaaaGreatDoor.Nm
abbrev By:=List UInt8
def small (c : UInt8) : UInt8:=if 65 ≤ c ∧ c ≤ 90 then c + 32 else c
def fold (l : By) : By:=l.map small
def splitF : Nat → By → Option (List By)
 | 0,_=>none
 | _ + 1, []=>none
 | f + 1,k :: t =>
  if k.toNat = 0 then (if t.length = 0 then some [] else none)
  else if 63 < k.toNat ∨ t.length < k.toNat then none
  else (splitF f (t.drop k.toNat)).map (t.take k.toNat :: ·)
def split (l : By) : Option (List By):=if 255 < l.length then none else splitF (l.length + 1) l
theorem splitF_more : ∀ (f : Nat) (l : By),l.length < f → splitF (f + 1) l = splitF f l:=by
 intro f
 induction f with
 | zero=>intro l h;omega
 | succ f ih =>
  intro l h
  cases l with
  | nil=>rfl
  | cons k t =>
   rw [splitF,splitF]
   have hd : (t.drop k.toNat).length < f:=by simp at h ⊢;omega
   rw [ih _ hd]
theorem splitF_eq : ∀ (d f : Nat) (l : By),l.length < f → splitF (f + d) l = splitF f l:=by
 intro d
 induction d with
 | zero=>intro f l _;rfl
 | succ d ih=>intro f l h;rw [← Nat.add_assoc,splitF_more _ _ (by omega)];exact ih f l h
theorem splitF_len (f : Nat) (l : By) (h : l.length < f) : splitF f l = splitF (l.length + 1) l:=by
 have:=splitF_eq (f - (l.length + 1)) (l.length + 1) l (by omega)
 rw [show l.length + 1 + (f - (l.length + 1)) = f from by omega] at this
 exact this
def sp (l : By) : Option (List By):=splitF (l.length + 1) l
theorem sp_nil : sp [] = none:=rfl
theorem sp_zero {k : UInt8} {t : By} (h : k.toNat = 0) : sp (k :: t) = if t.length = 0 then some [] else none:=by simp [sp,splitF,h]
theorem sp_bad {k : UInt8} {t : By} (h : k.toNat ≠ 0) (h2 : 63 < k.toNat ∨ t.length < k.toNat) : sp (k :: t) = none:=by simp [sp,splitF,h,h2]
theorem sp_cons {k : UInt8} {t : By} (h : k.toNat ≠ 0) (h2 : k.toNat ≤ 63) (h3 : k.toNat ≤ t.length) :
 sp (k :: t) = (sp (t.drop k.toNat)).map (t.take k.toNat :: ·):=by
 have e : splitF (t.length + 1) (t.drop k.toNat) = sp (t.drop k.toNat):=splitF_len _ _ (by simp;omega)
 unfold sp at e ⊢
 rw [List.length_cons,splitF,if_neg h,if_neg (by omega),e]
def lab (l : By) : By:=UInt8.ofNat l.length :: l
def body (ls : List By) : By:=ls.flatMap lab
def glue (ls : List By) : By:=body ls ++ [0]
def Good (ls : List By) : Prop := ∀ l ∈ ls,1 ≤ l.length ∧ l.length ≤ 63
theorem body_nil : body [] = []:=rfl
theorem body_cons (l : By) (ls : List By) : body (l :: ls) = lab l ++ body ls:=rfl
theorem body_append (a b : List By) : body (a ++ b) = body a ++ body b:=by simp [body]
theorem lab_length (l : By) : (lab l).length = l.length + 1:=by simp [lab]
theorem glue_length (ls : List By) : (glue ls).length = (body ls).length + 1:=by simp [glue]
theorem body_snoc_length (a : List By) (l : By) : (body (a ++ [l])).length = (body a).length + 1 + l.length:=by
 rw [body_append];simp [body,lab];omega
theorem sp_glue : ∀ (ls : List By),Good ls → sp (glue ls) = some ls:=by
 intro ls
 induction ls with
 | nil=>intro _;rfl
 | cons l ls ih =>
  intro h
  have hl:=h l (by simp)
  have hb : (UInt8.ofNat l.length).toNat = l.length:=by simp;omega
  have e : glue (l :: ls) = UInt8.ofNat l.length :: (l ++ glue ls):=by simp [glue,body,lab]
  rw [e,sp_cons (by omega) (by omega) (by simp;omega),hb,List.drop_left,List.take_left,ih (fun x hx=>h x (by simp [hx]))]
  rfl
theorem sp_some : ∀ (n : Nat) (l : By) (ls : List By),l.length ≤ n → sp l = some ls → l = glue ls ∧ Good ls:=by
 intro n
 induction n with
 | zero =>
  intro l ls hn h
  have : l = []:=List.eq_nil_of_length_eq_zero (by omega)
  subst this;simp [sp_nil] at h
 | succ n ih =>
  intro l ls hn h
  cases l with
  | nil=>simp [sp_nil] at h
  | cons k t =>
   by_cases h0 : k.toNat = 0
   · rw [sp_zero h0] at h
     split at h
     · rename_i ht
       have : t = []:=List.eq_nil_of_length_eq_zero ht
       subst this
       injection h with h
       subst h
       have hk : k = 0:=UInt8.toNat_inj.1 (by simpa using h0)
       subst hk
       exact ⟨rfl,by intro x hx;simp at hx⟩
     · simp at h
   · by_cases hb : 63 < k.toNat ∨ t.length < k.toNat
     · rw [sp_bad h0 hb] at h;simp at h
     · rw [sp_cons h0 (by omega) (by omega)] at h
       rcases hs : sp (t.drop k.toNat) with _ | ls'
       · simp [hs] at h
       · simp [hs] at h
         subst h
         obtain ⟨e,g⟩:=ih (t.drop k.toNat) ls' (by simp at hn ⊢;omega) hs
         refine ⟨?_,?_⟩
         · have hlen : (t.take k.toNat).length = k.toNat:=by simp;omega
           have : glue (t.take k.toNat :: ls') = k :: (t.take k.toNat ++ glue ls'):=by simp [glue,body,lab,Nat.min_eq_left (show k.toNat ≤ t.length by omega)]
           rw [this,← e,List.take_append_drop]
         · intro x hx
           rcases List.mem_cons.1 hx with rfl | hx
           · simp;omega
           · exact g x hx
theorem split_some {l : By} {ls : List By} : split l = some ls ↔ l = glue ls ∧ Good ls ∧ l.length ≤ 255:=by
 unfold split
 constructor
 · intro h
   split at h
   · simp at h
   · obtain ⟨a,b⟩:=sp_some l.length l ls (Nat.le_refl _) h
     exact ⟨a,b,by omega⟩
 · rintro ⟨rfl,g,h⟩
   rw [if_neg (by omega)]
   exact sp_glue ls g
theorem split_glue {ls : List By} (g : Good ls) (h : (glue ls).length ≤ 255) : split (glue ls) = some ls:=split_some.2 ⟨rfl,g,h⟩
theorem good_count {ls : List By} (g : Good ls) : 2 * ls.length ≤ (body ls).length:=by
 induction ls with
 | nil=>simp
 | cons l ls ih =>
  have:=ih (fun x hx=>g x (by simp [hx]))
  have hl:=g l (by simp)
  rw [body_cons,List.length_append,lab_length,List.length_cons];omega
def starts (ls : List By) : List Nat:=(List.range ls.length).map fun i=>(body (ls.take i)).length
theorem starts_length (ls : List By) : (starts ls).length = ls.length:=by simp [starts]
theorem starts_snoc (ls : List By) (l : By) : starts (ls ++ [l]) = starts ls ++ [(body ls).length]:=by
 unfold starts
 rw [List.length_append,List.length_singleton,List.range_succ,List.map_append]
 congr 1
 · apply List.map_congr_left
   intro i hi
   rw [List.take_append_of_le_length (by have:=List.mem_range.1 hi;omega)]
 · simp
def offs (ls : List By) : List Nat:=starts ls ++ [(body ls).length]
theorem offs_length (ls : List By) : (offs ls).length = ls.length + 1:=by simp [offs,starts_length]
theorem offs_get (ls : List By) (i : Nat) (h : i ≤ ls.length) : (offs ls)[i]? = some (body (ls.take i)).length:=by
 unfold offs
 by_cases hi : i < ls.length
 · rw [List.getElem?_append_left (by simpa [starts_length] using hi)];simp [starts,hi]
 · have : i = ls.length:=by omega
   subst this
   rw [List.getElem?_append_right (by simp [starts_length])];simp [starts_length]
theorem small_val (c : UInt8) : (small c).toNat = if 65 ≤ c.toNat ∧ c.toNat ≤ 90 then c.toNat + 32 else c.toNat:=by
 have:=c.toNat_lt
 unfold small
 by_cases h : 65 ≤ c.toNat ∧ c.toNat ≤ 90
 · rw [if_pos (by simpa [UInt8.le_iff_toNat_le] using h),if_pos h];simp;omega
 · rw [if_neg (by simpa [UInt8.le_iff_toNat_le] using h),if_neg h]
theorem getD_lt {l : By} {j : Nat} (h : j < l.length) : l.getD j 0 = l[j]:=by simp [List.getD,h]
theorem fold_get {l : By} {j : Nat} (h : j < (fold l).length) : (fold l)[j] = small (l.getD j 0):=by
 rw [getD_lt (by simpa [fold] using h)];simp [fold]
theorem take_succ_body {ls : List By} {i : Nat} (h : i < ls.length) : (body (ls.take (i + 1))).length = (body (ls.take i)).length + 1 + (ls[i]).length:=by
 rw [List.take_succ_eq_append_getElem h,body_snoc_length]
theorem glue_split {ls : List By} {i : Nat} (h : i < ls.length) : glue ls = body (ls.take i) ++ (lab ls[i] ++ glue (ls.drop (i + 1))):=by
 have e : ls = ls.take i ++ (ls[i] :: ls.drop (i + 1)):=by rw [← List.drop_eq_getElem_cons h];simp
 conv=>lhs;rw [e]
 unfold glue
 rw [body_append,body_cons];simp
theorem label_cut {ls : List By} {i : Nat} (h : i < ls.length) :
 ((glue ls).drop ((body (ls.take i)).length + 1)).take ((body (ls.take (i + 1))).length - ((body (ls.take i)).length + 1)) = ls[i]:=by
 rw [take_succ_body h,glue_split h,← List.drop_drop,List.drop_left]
 simp [lab]
theorem body_take_le {ls : List By} {i : Nat} : (body (ls.take i)).length ≤ (body ls).length:=by
 conv=>rhs;rw [← List.take_append_drop i ls,body_append]
 simp
theorem drop_cons {l : By} {k : Nat} (h : k < l.length) : l.drop k = l[k] :: l.drop (k + 1):=List.drop_eq_getElem_cons h
theorem sp_step {l pre : By} {c : UInt8} {t : By} {ps : List By} (hl : l = pre ++ c :: t) (hs : sp l = (sp (c :: t)).map (ps ++ ·)) (h0 : c.toNat ≠ 0) (h2 : c.toNat ≤ 63) (h3 : c.toNat ≤ t.length) :
 l = (pre ++ c :: t.take c.toNat) ++ t.drop c.toNat ∧ sp l = (sp (t.drop c.toNat)).map (ps ++ [t.take c.toNat] ++ ·):=by
 refine ⟨by rw [hl];simp,?_⟩
 rw [hs,sp_cons h0 h2 h3]
 rcases sp (t.drop c.toNat) with _ | x <;> simp
theorem lab_take {t : By} {c : UInt8} (h3 : c.toNat ≤ t.length) : lab (t.take c.toNat) = c :: t.take c.toNat:=by
 unfold lab;rw [List.length_take,Nat.min_eq_left h3];simp
theorem split_of_sp {l : By} (h : l.length ≤ 255) : split l = sp l:=by unfold split;rw [if_neg (by omega)];rfl
theorem split_long {l : By} (h : 255 < l.length) : split l = none:=by unfold split;rw [if_pos h]
end Go.Proofs.YtekafhogiambaaaGreatDoor.Nm
namespace Go.Proofs.YtekafhogiambaaaGreatDoor.Nm
def dg (c : UInt8) : Prop:=48 ≤ c.toNat ∧ c.toNat ≤ 57
instance (c : UInt8) : Decidable (dg c):=inferInstanceAs (Decidable (_ ∧ _))
def val3 (a b c : UInt8) : Nat:=100 * (a.toNat - 48) + 10 * (b.toNat - 48) + (c.toNat - 48)
def escd : By → Option (UInt8 × Nat)
 | []=>none
 | c :: t=>if ¬ dg c then some (c,1) else
  match t with
  | d :: e :: _=>if dg d ∧ dg e ∧ val3 c d e ≤ 255 then some (UInt8.ofNat (val3 c d e),3) else none
  | _=>none
theorem escd_plain {c : UInt8} {t : By} (h : ¬ dg c) : escd (c :: t) = some (c,1):=by show (if ¬ dg c then _ else _) = _;rw [if_pos h]
theorem escd_few {c : UInt8} {t : By} (h : dg c) (ht : t.length < 2) : escd (c :: t) = none:=by
 show (if ¬ dg c then _ else _) = _
 rw [if_neg (fun x=>x h)]
 match t,ht with
 | [],_=>rfl
 | [d],_=>rfl
 | d :: e :: r,ht=>simp at ht;omega
theorem escd_three {c d e : UInt8} {r : By} (h : dg c) : escd (c :: d :: e :: r) = if dg d ∧ dg e ∧ val3 c d e ≤ 255 then some (UInt8.ofNat (val3 c d e),3) else none:=by
 show (if ¬ dg c then _ else _) = _
 rw [if_neg (fun x=>x h)]
theorem escd_pos {l : By} {b : UInt8} {k : Nat} (h : escd l = some (b,k)) : 1 ≤ k ∧ k ≤ l.length:=by
 unfold escd at h
 split at h
 · simp at h
 · split at h
   · injection h with h;injection h with _ h;subst h;simp
   · split at h
     · split at h
       · injection h with h;injection h with _ h;subst h;simp
       · simp at h
     · simp at h
def unescF : Nat → By → Option By
 | 0,_=>none
 | _ + 1, []=>some []
 | f + 1,c :: t =>
  if c.toNat = 92 then
   match escd t with
   | none=>none
   | some (b,k)=>(unescF f (t.drop k)).map (b :: ·)
  else (unescF f t).map (c :: ·)
theorem unescF_more : ∀ (f : Nat) (l : By),l.length < f → unescF (f + 1) l = unescF f l:=by
 intro f
 induction f with
 | zero=>intro l h;omega
 | succ f ih =>
  intro l h
  cases l with
  | nil=>rfl
  | cons c t =>
   rw [unescF,unescF]
   have ht : t.length < f:=by simpa using h
   rcases he : escd t with _ | ⟨b,k⟩
   · simp only [ih t ht]
   · simp only [ih t ht,ih (t.drop k) (by simp;omega)]
theorem unescF_eq (d f : Nat) (l : By) (h : l.length < f) : unescF (f + d) l = unescF f l:=by
 induction d with
 | zero=>rfl
 | succ d ih=>rw [← Nat.add_assoc,unescF_more _ _ (by omega)];exact ih
def unesc (l : By) : Option By:=unescF (l.length + 1) l
theorem unescF_len (f : Nat) (l : By) (h : l.length < f) : unescF f l = unesc l:=by
 have:=unescF_eq (f - (l.length + 1)) (l.length + 1) l (by omega)
 rw [show l.length + 1 + (f - (l.length + 1)) = f from by omega] at this
 exact this
theorem unesc_nil : unesc [] = some []:=rfl
theorem unesc_plain {c : UInt8} {t : By} (h : c.toNat ≠ 92) : unesc (c :: t) = (unesc t).map (c :: ·):=by
 rw [unesc,unescF,if_neg h,unescF_len _ t (by simp)]
theorem unesc_no {c : UInt8} {t : By} (h : c.toNat = 92) (he : escd t = none) : unesc (c :: t) = none:=by
 rw [unesc,unescF,if_pos h,he]
theorem unesc_yes {c b : UInt8} {k : Nat} {t : By} (h : c.toNat = 92) (he : escd t = some (b,k)) : unesc (c :: t) = (unesc (t.drop k)).map (b :: ·):=by
 rw [unesc,unescF,if_pos h,he]
 simp only []
 rw [unescF_len _ _ (by simp;omega)]
theorem unesc_len : ∀ (n : Nat) (l r : By),l.length ≤ n → unesc l = some r → r.length ≤ l.length:=by
 intro n
 induction n with
 | zero =>
  intro l r h he
  have : l = []:=List.eq_nil_of_length_eq_zero (by omega)
  subst this;rw [unesc_nil] at he;injection he with he;subst he;simp
 | succ n ih =>
  intro l r h he
  cases l with
  | nil=>rw [unesc_nil] at he;injection he with he;subst he;simp
  | cons c t =>
   by_cases h92 : c.toNat = 92
   · rcases hd : escd t with _ | ⟨b,k⟩
     · rw [unesc_no h92 hd] at he;simp at he
     · rw [unesc_yes h92 hd] at he
       rcases hr : unesc (t.drop k) with _ | r'
       · rw [hr] at he;simp at he
       · rw [hr] at he;simp at he;subst he
         have:=ih _ _ (by simp at h ⊢;omega) hr
         have:=(escd_pos hd).1
         simp at *;omega
   · rw [unesc_plain h92] at he
     rcases hr : unesc t with _ | r'
     · rw [hr] at he;simp at he
     · rw [hr] at he;simp at he;subst he
       have:=ih _ _ (by simpa using h) hr
       simp;omega
def cutP : By → By × By × Bool
 | []=>([], [],false)
 | [c]=>if c.toNat = 46 then ([], [],true) else ([c], [],false)
 | c :: d :: t =>
  if c.toNat = 46 then ([],d :: t,true)
  else if c.toNat = 92 then let r:=cutP t;(c :: d :: r.1,r.2)
  else let r:=cutP (d :: t);(c :: r.1,r.2)
theorem cutP_dot {c : UInt8} {t : By} (h : c.toNat = 46) : cutP (c :: t) = ([],t,true):=by
 cases t <;> simp [cutP,h]
theorem cutP_back {c d : UInt8} {t : By} (h : c.toNat = 92) : cutP (c :: d :: t) = (c :: d :: (cutP t).1,(cutP t).2):=by
 simp [cutP,h]
theorem cutP_last {c : UInt8} (h : c.toNat ≠ 46) : cutP [c] = ([c], [],false):=by simp [cutP,h]
theorem cutP_plain {c : UInt8} {t : By} (h : c.toNat ≠ 46) (h2 : c.toNat ≠ 92) : cutP (c :: t) = (c :: (cutP t).1,(cutP t).2):=by
 cases t <;> simp [cutP,h,h2]
theorem cutP_less : ∀ (n : Nat) (l : By),l.length ≤ n → (cutP l).2.2 = true → (cutP l).2.1.length < l.length:=by
 intro n
 induction n with
 | zero=>intro l h;have : l = []:=List.eq_nil_of_length_eq_zero (by omega);subst this;simp [cutP]
 | succ n ih =>
  intro l h hd
  match l with
  | []=>simp [cutP] at hd
  | [c] =>
   by_cases h46 : c.toNat = 46
   · rw [cutP_dot h46];simp
   · rw [cutP_last h46] at hd;simp at hd
  | c :: d :: t =>
   by_cases h46 : c.toNat = 46
   · rw [cutP_dot h46];simp
   · by_cases h92 : c.toNat = 92
     · rw [cutP_back h92] at hd ⊢
       have:=ih t (by simp at h;omega) hd
       simp at *;omega
     · rw [cutP_plain h46 h92] at hd ⊢
       have:=ih (d :: t) (by simpa using h) hd
       simp at *;omega
def piecesF : Nat → By → List By × Bool
 | 0,_=>([],false)
 | f + 1,l =>
  if (cutP l).2.2 then
   if (cutP l).2.1.length = 0 then ([(cutP l).1],true) else ((cutP l).1 :: (piecesF f (cutP l).2.1).1,(piecesF f (cutP l).2.1).2)
  else ([(cutP l).1],false)
theorem piecesF_succ (f : Nat) (l : By) : piecesF (f + 1) l = if (cutP l).2.2 then
 if (cutP l).2.1.length = 0 then ([(cutP l).1],true) else ((cutP l).1 :: (piecesF f (cutP l).2.1).1,(piecesF f (cutP l).2.1).2)
 else ([(cutP l).1],false):=rfl
theorem piecesF_more : ∀ (f : Nat) (l : By),l.length < f → piecesF (f + 1) l = piecesF f l:=by
 intro f
 induction f with
 | zero=>intro l h;omega
 | succ f ih =>
  intro l h
  rw [piecesF_succ (f + 1) l,piecesF_succ f l]
  by_cases hd : (cutP l).2.2 = true
  · have:=cutP_less _ l (Nat.le_refl _) hd
    rw [ih _ (by omega)]
  · rw [if_neg hd,if_neg hd]
def pieces (l : By) : List By × Bool:=piecesF (l.length + 1) l
theorem piecesF_len (f : Nat) (l : By) (h : l.length < f) : piecesF f l = pieces l:=by
 obtain ⟨d,rfl⟩ : ∃ d,f = l.length + 1 + d:=⟨f - (l.length + 1),by omega⟩
 induction d with
 | zero=>rfl
 | succ d ih=>rw [← Nat.add_assoc,piecesF_more _ _ (by omega)];exact ih (by omega)
theorem pieces_end {l : By} (h : (cutP l).2.2 = false) : pieces l = ([(cutP l).1],false):=by
 rw [pieces,piecesF_succ,if_neg (by rw [h];simp)]
theorem pieces_whole {l : By} (h : (cutP l).2.2 = true) (h2 : (cutP l).2.1.length = 0) : pieces l = ([(cutP l).1],true):=by
 rw [pieces,piecesF_succ,if_pos h,if_pos h2]
theorem pieces_more {l : By} (h : (cutP l).2.2 = true) (h2 : (cutP l).2.1.length ≠ 0) : pieces l = ((cutP l).1 :: (pieces (cutP l).2.1).1,(pieces (cutP l).2.1).2):=by
 rw [pieces,piecesF_succ,if_pos h,if_neg h2,piecesF_len _ _ (cutP_less _ l (Nat.le_refl _) h)]
def labelsP : List By → Except Nat (List By)
 | []=>.ok []
 | p :: ps =>
  match unesc p with
  | none=>.error 12
  | some b=>if 1 ≤ b.length ∧ b.length ≤ 63 then
   match labelsP ps with
   | .error e=>.error e
   | .ok ls=>.ok (b :: ls)
   else .error 10
def glueR (ls : List By) : By × Nat:=if 255 < (body ls).length + 1 then ([],2) else (glue ls,0)
def parse (l origin : By) : By × Nat :=
 match split origin with
 | none=>([],11)
 | some os =>
  if l = [46] then ([0],0) else
  match labelsP (pieces l).1 with
  | .error e=>([],e)
  | .ok ls=>glueR (if (pieces l).2 then ls else ls ++ os)
def mark (q : Bool) (c : UInt8) : Bool:=c.toNat = 34 || c.toNat = 92 || (!q && (c.toNat = 46 || c.toNat = 59 || c.toNat = 40 || c.toNat = 41 || c.toNat = 64 || c.toNat = 36))
def clear (q : Bool) (c : UInt8) : Bool:=(32 < c.toNat && c.toNat < 127) || (c.toNat = 32 && q)
def dig3 (c : UInt8) : By := [UInt8.ofNat (48 + c.toNat / 100),UInt8.ofNat (48 + c.toNat / 10 % 10),UInt8.ofNat (48 + c.toNat % 10)]
def esc1 (q : Bool) (c : UInt8) : By:=if mark q c then [92,c] else if clear q c then [c] else 92 :: dig3 c
def esc (q : Bool) (l : By) : By:=l.flatMap (esc1 q)
theorem esc_snoc (q : Bool) (l : By) (c : UInt8) : esc q (l ++ [c]) = esc q l ++ esc1 q c:=by simp [esc]
theorem esc1_len (q : Bool) (c : UInt8) : 1 ≤ (esc1 q c).length ∧ (esc1 q c).length ≤ 4:=by
 unfold esc1;split
 · simp
 · split <;> simp [dig3]
theorem esc_len (q : Bool) (l : By) : (esc q l).length ≤ 4 * l.length:=by
 induction l with
 | nil=>simp [esc]
 | cons c l ih =>
  have:=(esc1_len q c).2
  have e : esc q (c :: l) = esc1 q c ++ esc q l:=rfl
  rw [e];simp;omega
def textL (ls : List By) : By:=ls.flatMap fun l=>esc false l ++ [46]
def text (n : By) : By:=match split n with
 | none => []
 | some [] => [46]
 | some ls=>textL ls
end Go.Proofs.YtekafhogiambaaaGreatDoor.Nm
namespace Go.Proofs.YtekafhogiambaaaGreatDoor.Nm
theorem dig_of {n : Nat} (h : n ≤ 9) : (UInt8.ofNat (48 + n)).toNat = 48 + n:=by simp;omega
theorem esc1_split (q : Bool) (c : UInt8) (P : By → Prop) (h1 : ¬ dg c → P [92,c]) (h2 : c.toNat ≠ 92 → (q = false → c.toNat ≠ 46) → P [c])
 (h3 : ∀ d0 d1 d2,dg d0 → dg d1 → dg d2 → val3 d0 d1 d2 = c.toNat → P [92,d0,d1,d2]) : P (esc1 q c):=by
 have h8:=c.toNat_lt
 unfold esc1
 by_cases hm : mark q c = true
 · rw [if_pos hm]
   apply h1
   unfold dg
   simp [mark] at hm
   omega
 · rw [if_neg hm]
   by_cases hc : clear q c = true
   · rw [if_pos hc]
     simp [mark] at hm
     exact h2 (by omega) (fun hq=>by subst hq;simp at hm;omega)
   · rw [if_neg hc]
     have a0 : (UInt8.ofNat (48 + c.toNat / 100)).toNat = 48 + c.toNat / 100:=dig_of (by omega)
     have a1 : (UInt8.ofNat (48 + c.toNat / 10 % 10)).toNat = 48 + c.toNat / 10 % 10:=dig_of (by omega)
     have a2 : (UInt8.ofNat (48 + c.toNat % 10)).toNat = 48 + c.toNat % 10:=dig_of (by omega)
     refine h3 _ _ _ ?_ ?_ ?_ ?_
     · unfold dg;omega
     · unfold dg;omega
     · unfold dg;omega
     · unfold val3;rw [a0,a1,a2];omega
theorem unesc_esc1 (q : Bool) (c : UInt8) (r : By) : unesc (esc1 q c ++ r) = (unesc r).map (c :: ·):=by
 apply esc1_split q c (fun l=>unesc (l ++ r) = (unesc r).map (c :: ·))
 · intro h
   show unesc (92 :: c :: r) = _
   rw [unesc_yes rfl (escd_plain h)];rfl
 · intro h _
   show unesc (c :: r) = _
   rw [unesc_plain h]
 · intro d0 d1 d2 h0 h1 h2 hv
   have h8:=c.toNat_lt
   show unesc (92 :: d0 :: d1 :: d2 :: r) = _
   have he : escd (d0 :: d1 :: d2 :: r) = some (c,3):=by
    rw [escd_three h0,if_pos ⟨h1,h2,by omega⟩,hv]
    simp
   rw [unesc_yes rfl he];rfl
theorem unesc_esc_append (q : Bool) (l r : By) : unesc (esc q l ++ r) = (unesc r).map (l ++ ·):=by
 induction l with
 | nil=>show unesc r = _;rcases unesc r <;> rfl
 | cons c l ih =>
  have e : esc q (c :: l) = esc1 q c ++ esc q l:=rfl
  rw [e,List.append_assoc,unesc_esc1,ih]
  rcases unesc r <;> rfl
theorem unesc_esc (q : Bool) (l : By) : unesc (esc q l) = some l:=by
 have:=unesc_esc_append q l []
 rw [List.append_nil,unesc_nil] at this
 simpa using this
theorem dg_ne {d : UInt8} (h : dg d) : d.toNat ≠ 46 ∧ d.toNat ≠ 92:=by unfold dg at h;omega
theorem cutP_esc1 (c : UInt8) (t : By) : cutP (esc1 false c ++ t) = (esc1 false c ++ (cutP t).1,(cutP t).2):=by
 apply esc1_split false c (fun l=>cutP (l ++ t) = (l ++ (cutP t).1,(cutP t).2))
 · intro _
   show cutP (92 :: c :: t) = _
   rw [cutP_back rfl];rfl
 · intro h h2
   show cutP (c :: t) = _
   rw [cutP_plain (h2 rfl) h];rfl
 · intro d0 d1 d2 h0 h1 h2 _
   show cutP (92 :: d0 :: d1 :: d2 :: t) = _
   rw [cutP_back rfl,cutP_plain (dg_ne h1).1 (dg_ne h1).2,cutP_plain (dg_ne h2).1 (dg_ne h2).2];rfl
theorem cutP_esc (l t : By) : cutP (esc false l ++ 46 :: t) = (esc false l,t,true):=by
 induction l with
 | nil=>show cutP (46 :: t) = _;rw [cutP_dot rfl];rfl
 | cons c l ih =>
  have e : esc false (c :: l) = esc1 false c ++ esc false l:=rfl
  rw [e,List.append_assoc,cutP_esc1,ih]
theorem textL_cons (l : By) (ls : List By) : textL (l :: ls) = esc false l ++ 46 :: textL ls:=by simp [textL]
theorem textL_len0 {ls : List By} : (textL ls).length = 0 ↔ ls = []:=by
 cases ls with
 | nil=>simp [textL]
 | cons l ls=>rw [textL_cons];simp
theorem pieces_text : ∀ ls : List By,ls ≠ [] → pieces (textL ls) = (ls.map (esc false),true)
 | [],h=>absurd rfl h
 | [l],_=>by
  have hc : cutP (textL [l]) = (esc false l, [],true):=by rw [textL_cons];exact cutP_esc l _
  rw [pieces_whole (by rw [hc]) (by rw [hc];rfl),hc];rfl
 | l :: m :: ls,_=>by
  have hc : cutP (textL (l :: m :: ls)) = (esc false l,textL (m :: ls),true):=by rw [textL_cons];exact cutP_esc l _
  rw [pieces_more (by rw [hc]) (by rw [hc];exact fun h=>by have:=textL_len0.1 h;cases this),hc]
  simp only [pieces_text (m :: ls) (by simp)];rfl
theorem labelsP_esc_ok {ls : List By} (h : Good ls) : labelsP (ls.map (esc false)) = .ok ls:=by
 induction ls with
 | nil=>rfl
 | cons l ls ih =>
  have hl:=h l (by simp)
  rw [List.map_cons]
  unfold labelsP
  rw [unesc_esc]
  simp only [if_pos hl,ih (fun x hx=>h x (by simp [hx]))]
theorem parse_text {n o : By} {ls os : List By} (hn : split n = some ls) (ho : split o = some os) : parse (text n) o = (n,0):=by
 obtain ⟨hg,gl,hl⟩:=split_some.1 hn
 unfold parse text
 rw [hn,ho]
 cases ls with
 | nil=>simp only [];rw [if_pos trivial,hg];rfl
 | cons l ls =>
  have hne : textL (l :: ls) ≠ [46]:=fun h=>by
   have h1:=congrArg List.length h
   rw [textL_cons] at h1
   have hl1:=(gl l (by simp)).1
   cases l with
   | nil=>simp at hl1
   | cons c l =>
    have e : esc false (c :: l) = esc1 false c ++ esc false l:=rfl
    have:=(esc1_len false c).1
    rw [e] at h1;simp at h1;omega
  simp only []
  rw [if_neg hne,pieces_text _ (by simp)]
  simp only [labelsP_esc_ok gl,if_true]
  rw [glueR,if_neg (by rw [hg,glue_length] at hl;omega),hg]
end Go.Proofs.YtekafhogiambaaaGreatDoor.Nm
namespace Go.Proofs.YtekafhogiambaaaGreatDoor.Rd
abbrev By:=List UInt8
def txF : Nat → By → Option (List By)
 | 0,_=>none
 | _ + 1, []=>some []
 | f + 1,k :: t=>if t.length < k.toNat then none else (txF f (t.drop k.toNat)).map (t.take k.toNat :: ·)
def tx (l : By) : Option (List By):=txF (l.length + 1) l
theorem txF_more : ∀ (f : Nat) (l : By),l.length < f → txF (f + 1) l = txF f l:=by
 intro f
 induction f with
 | zero=>intro l h;omega
 | succ f ih =>
  intro l h
  cases l with
  | nil=>rfl
  | cons k t =>
   rw [txF,txF]
   have hd : (t.drop k.toNat).length < f:=by simp at h ⊢;omega
   rw [ih _ hd]
theorem txF_eq : ∀ (d f : Nat) (l : By),l.length < f → txF (f + d) l = txF f l:=by
 intro d
 induction d with
 | zero=>intro f l _;rfl
 | succ d ih=>intro f l h;rw [← Nat.add_assoc,txF_more _ _ (by omega)];exact ih f l h
theorem tx_nil : tx [] = some []:=rfl
theorem tx_bad {k : UInt8} {t : By} (h : t.length < k.toNat) : tx (k :: t) = none:=by unfold tx;rw [List.length_cons,txF,if_pos h]
theorem tx_cons {k : UInt8} {t : By} (h : ¬ t.length < k.toNat) : tx (k :: t) = (tx (t.drop k.toNat)).map (t.take k.toNat :: ·):=by
 have e : txF (t.length + 1) (t.drop k.toNat) = tx (t.drop k.toNat):=by
  have:=txF_eq (k.toNat) ((t.drop k.toNat).length + 1) (t.drop k.toNat) (by omega)
  rw [show (t.drop k.toNat).length + 1 + k.toNat = t.length + 1 from by rw [List.length_drop];omega] at this
  exact this
 unfold tx at e ⊢
 rw [List.length_cons,txF,if_neg h,e]
theorem tx_len {l : By} {ls : List By} : tx l = some ls → ls.length ≤ l.length:=by
 suffices H : ∀ n (l : By) (ls : List By),l.length ≤ n → tx l = some ls → ls.length ≤ l.length from H l.length l ls (Nat.le_refl _)
 intro n
 induction n with
 | zero =>
  intro l ls hl h
  obtain rfl : l = []:=List.eq_nil_of_length_eq_zero (by omega)
  rw [tx_nil] at h;cases h;simp
 | succ n ih =>
  intro l ls hl h
  cases l with
  | nil=>rw [tx_nil] at h;cases h;simp
  | cons k t =>
   by_cases hk : t.length < k.toNat
   · rw [tx_bad hk] at h;cases h
   · rw [tx_cons hk] at h
     obtain ⟨r,hr,rfl⟩:=Option.map_eq_some_iff.1 h
     have:=ih _ _ (by simp at hl ⊢;omega) hr
     simp at this ⊢
     omega
structure Dt where
 raw : By
 host : By
 mail : By
 n0 : Nat
 n1 : Nat
 n2 : Nat
 n3 : Nat
 n4 : Nat
def isHost (t : Nat) : Bool:=t == 2 || t == 5 || t == 12 || t == 6 || t == 15 || t == 33
def isMail (t : Nat) : Bool:=t == 6
def cnt (t : Nat) : Nat:=if t = 6 then 5 else if t = 15 then 1 else if t = 33 then 3 else 0
def bits (t : Nat) : Nat:=if t = 6 then 32 else if t = 15 then 16 else if t = 33 then 16 else 0
def rawOk (t : Nat) (s : By) : Bool :=
 if isHost t then s == [] else if t = 1 then s.length == 4 else if t = 28 then s.length == 16
 else if t = 16 then (match tx s with | some (_ :: _)=>decide (s.length ≤ 65535) | _=>false) else decide (s.length ≤ 65535)
def nm (s : By) : Bool:=(Nm.split s).isSome
def numOk (t i x : Nat) : Bool:=if i < cnt t then !(bits t == 16 && decide (65535 < x)) else x == 0
def ok (t : Nat) (d : Dt) : Bool :=
 rawOk t d.raw && (isHost t == nm d.host) && (isHost t || d.host == []) && (isMail t == nm d.mail) && (isMail t || d.mail == []) &&
 numOk t 0 d.n0 && numOk t 1 d.n1 && numOk t 2 d.n2 && numOk t 3 d.n3 && numOk t 4 d.n4
def dec (n : Nat) : By:=if n < 10 then [UInt8.ofNat (48 + n)] else dec (n / 10) ++ [UInt8.ofNat (48 + n % 10)]
def hx (n : Nat) : UInt8:=if n < 10 then UInt8.ofNat (48 + n) else UInt8.ofNat (87 + n)
def hex (n : Nat) : By:=if n < 16 then [hx n] else hex (n / 16) ++ [hx (n % 16)]
theorem dec_small {n : Nat} (h : n < 10) : dec n = [UInt8.ofNat (48 + n)]:=by rw [dec,if_pos h]
theorem dec_more {n : Nat} (h : ¬ n < 10) : dec n = dec (n / 10) ++ [UInt8.ofNat (48 + n % 10)]:=by rw [dec,if_neg h]
theorem hex_small {n : Nat} (h : n < 16) : hex n = [hx n]:=by rw [hex,if_pos h]
theorem hex_more {n : Nat} (h : ¬ n < 16) : hex n = hex (n / 16) ++ [hx (n % 16)]:=by rw [hex,if_neg h]
theorem dec_len (n : Nat) : (dec n).length ≤ n + 1:=by
 induction n using Nat.strongRecOn with
 | ind n ih =>
  by_cases h : n < 10
  · rw [dec_small h];simp
  · rw [dec_more h]
    have:=ih (n / 10) (by omega)
    simp
    omega
theorem hex_len (n : Nat) : (hex n).length ≤ n + 1:=by
 induction n using Nat.strongRecOn with
 | ind n ih =>
  by_cases h : n < 16
  · rw [hex_small h];simp
  · rw [hex_more h]
    have:=ih (n / 16) (by omega)
    simp
    omega
def tyTab : List (Nat × By) := [(1, [65]),(2, [78,83]),(5, [67,78,65,77,69]),(6, [83,79,65]),(12, [80,84,82]),(15, [77,88]),(16, [84,88,84]),(28, [65,65,65,65]),(33, [83,82,86])]
def tyText (t : Nat) : By:=match tyTab.find? (fun x=>x.1 == t) with
 | some x=>x.2
 | none => [84,89,80,69] ++ dec t
def num (s : By) (most : Nat) : Option Nat :=
 if s.length = 0 ∨ (1 < s.length ∧ s.head? = some 48) ∨ 12 < s.length then none
 else if s.all (fun c=>decide (48 ≤ c.toNat) && decide (c.toNat ≤ 57)) then
  (let v:=s.foldl (fun v c=>10 * v + (c.toNat - 48)) 0
   if most < v then none else some v)
 else none
def tyOf (s : By) : Option Nat:=match tyTab.find? (fun x=>Nm.fold x.2 == Nm.fold s) with
 | some x=>some x.1
 | none=>if (Nm.fold s).take 4 = [116,121,112,101] then num (s.drop 4) 65535 else none
end Go.Proofs.YtekafhogiambaaaGreatDoor.Rd
namespace Go.Proofs.YtekafhogiambaaaGreatDoor.Rd
def isDig (c : UInt8) : Bool:=decide (48 ≤ c.toNat) && decide (c.toNat ≤ 57)
def decV (s : By) : Nat:=s.foldl (fun v c=>10 * v + (c.toNat - 48)) 0
theorem dig_dec {k : Nat} (h : k < 10) : (UInt8.ofNat (48 + k)).toNat = 48 + k:=by simp;omega
theorem dec_digs (n : Nat) : (dec n).all isDig = true:=by
 induction n using Nat.strongRecOn with
 | ind n ih =>
  by_cases h : n < 10
  · rw [dec_small h]
    simp only [List.all_cons,List.all_nil,Bool.and_true,isDig,dig_dec h,Bool.and_eq_true,decide_eq_true_eq]
    omega
  · rw [dec_more h,List.all_append,ih (n / 10) (by omega)]
    simp only [List.all_cons,List.all_nil,Bool.and_true,Bool.true_and,isDig,dig_dec (Nat.mod_lt n (by decide : 0 < 10)),Bool.and_eq_true,decide_eq_true_eq]
    omega
theorem dec_val (n : Nat) : decV (dec n) = n:=by
 induction n using Nat.strongRecOn with
 | ind n ih =>
  by_cases h : n < 10
  · rw [dec_small h]
    simp only [decV,List.foldl_cons,List.foldl_nil,dig_dec h]
    omega
  · have:=ih (n / 10) (by omega)
    rw [dec_more h]
    unfold decV at this ⊢
    rw [List.foldl_append,this]
    simp only [List.foldl_cons,List.foldl_nil,dig_dec (Nat.mod_lt n (by decide : 0 < 10))]
    omega
theorem dec_pos (n : Nat) : 0 < (dec n).length:=by
 by_cases h : n < 10
 · rw [dec_small h];simp
 · rw [dec_more h];simp
theorem dec_head (n : Nat) (h : 1 < (dec n).length) : (dec n).head? ≠ some 48:=by
 induction n using Nat.strongRecOn with
 | ind n ih =>
  by_cases hn : n < 10
  · rw [dec_small hn] at h
    simp at h
  · rw [dec_more hn]
    have hp:=dec_pos (n / 10)
    have hh : (dec (n / 10) ++ [UInt8.ofNat (48 + n % 10)]).head? = (dec (n / 10)).head?:=by
     cases hd : dec (n / 10) with
     | nil=>rw [hd] at hp;simp at hp
     | cons a r=>rfl
    rw [hh]
    by_cases h2 : n / 10 < 10
    · rw [dec_small h2]
      intro e
      have e2:=congrArg UInt8.toNat (Option.some.inj e)
      rw [dig_dec h2] at e2
      have : (48 : UInt8).toNat = 48:=rfl
      omega
    · refine ih (n / 10) (by omega) ?_
      rw [dec_more h2]
      have:=dec_pos (n / 10 / 10)
      simp
      omega
theorem dec_few (k : Nat) : ∀ n,n < 10 ^ (k + 1) → (dec n).length ≤ k + 1:=by
 induction k with
 | zero =>
  intro n h
  rw [dec_small (by simpa using h)]
  simp
 | succ k ih =>
  intro n h
  by_cases hn : n < 10
  · rw [dec_small hn];simp
  · rw [dec_more hn]
    have:=ih (n / 10) (by rw [Nat.pow_succ] at h;omega)
    simp
    omega
theorem num_dec {n most : Nat} (h : n ≤ most) (h2 : most ≤ 4294967295) : num (dec n) most = some n:=by
 have hl:=dec_few 9 n (by omega)
 have hp:=dec_pos n
 unfold num
 have hdg : (dec n).all (fun c=>decide (48 ≤ c.toNat) && decide (c.toNat ≤ 57)) = true:=dec_digs n
 rw [if_neg,if_pos hdg]
 · show (if most < decV (dec n) then none else some (decV (dec n))) = _
   rw [dec_val,if_neg (by omega)]
 · rintro (h3 | ⟨h3,h4⟩ | h3)
   · omega
   · exact dec_head n h3 h4
   · omega
def hexD (c : UInt8) : Option Nat:=if 48 ≤ c.toNat ∧ c.toNat ≤ 57 then some (c.toNat - 48) else if 97 ≤ c.toNat ∧ c.toNat ≤ 102 then some (c.toNat - 87) else if 65 ≤ c.toNat ∧ c.toNat ≤ 70 then some (c.toNat - 55) else none
theorem hx_nat {k : Nat} (h : k < 16) : (hx k).toNat = if k < 10 then 48 + k else 87 + k:=by
 unfold hx
 split <;> simp <;> omega
theorem hexD_hx {k : Nat} (h : k < 16) : hexD (hx k) = some k:=by
 unfold hexD
 rw [hx_nat h]
 by_cases h2 : k < 10
 · rw [if_pos h2,if_pos (by omega)]
   congr 1
   omega
 · rw [if_neg h2,if_neg (by omega),if_pos (by omega)]
   congr 1
   omega
def hexV (s : By) : Option Nat:=s.foldl (fun v c=>match v,hexD c with
 | some v,some d=>some (16 * v + d)
 | _,_=>none) (some 0)
theorem hex_val (n : Nat) : hexV (hex n) = some n:=by
 induction n using Nat.strongRecOn with
 | ind n ih =>
  by_cases h : n < 16
  · rw [hex_small h]
    simp only [hexV,List.foldl_cons,List.foldl_nil,hexD_hx h]
    simp
  · have:=ih (n / 16) (by omega)
    rw [hex_more h]
    unfold hexV at this ⊢
    rw [List.foldl_append,this]
    simp only [List.foldl_cons,List.foldl_nil,hexD_hx (Nat.mod_lt n (by decide : 0 < 16))]
    congr 1
    omega
theorem hex_pos (n : Nat) : 0 < (hex n).length:=by
 by_cases h : n < 16
 · rw [hex_small h];simp
 · rw [hex_more h];simp
theorem hex_few (k : Nat) : ∀ n,n < 16 ^ (k + 1) → (hex n).length ≤ k + 1:=by
 induction k with
 | zero =>
  intro n h
  rw [hex_small (by simpa using h)]
  simp
 | succ k ih =>
  intro n h
  by_cases hn : n < 16
  · rw [hex_small hn];simp
  · rw [hex_more hn]
    have:=ih (n / 16) (by rw [Nat.pow_succ] at h;omega)
    simp
    omega
def splitB (b : UInt8) : By → List By
 | [] => [[]]
 | c :: r=>if c = b then [] :: splitB b r else match splitB b r with
  | [] => [[c]]
  | p :: ps=>(c :: p) :: ps
theorem splitB_no {b : UInt8} : ∀ {s : By},(∀ c ∈ s,c ≠ b) → splitB b s = [s]
 | [],_=>rfl
 | c :: r,h=>by rw [splitB,if_neg (h c (by simp)),splitB_no (fun x hx=>h x (by simp [hx]))]
theorem splitB_cons {b : UInt8} (t : By) : ∀ {s : By},(∀ c ∈ s,c ≠ b) → splitB b (s ++ b :: t) = s :: splitB b t
 | [],_=>by rw [List.nil_append,splitB,if_pos rfl]
 | c :: r,h=>by rw [List.cons_append,splitB,if_neg (h c (by simp)),splitB_cons t (fun x hx=>h x (by simp [hx]))]
def joinB (b : UInt8) : List By → By
 | [] => []
 | [p]=>p
 | p :: q :: r=>p ++ b :: joinB b (q :: r)
theorem split_join {b : UInt8} : ∀ {ps : List By},ps ≠ [] → (∀ p ∈ ps, ∀ c ∈ p,c ≠ b) → splitB b (joinB b ps) = ps
 | [],h,_=>absurd rfl h
 | [p],_,h=>by rw [joinB,splitB_no (h p (by simp))]
 | p :: q :: r,_,h=>by rw [joinB,splitB_cons _ (h p (by simp)),split_join (by simp) (fun x hx=>h x (by simp [hx]))]
end Go.Proofs.YtekafhogiambaaaGreatDoor.Rd
namespace Go.Proofs.YtekafhogiambaaaGreatDoor.Rd
def scan (e : UInt8) : By → Nat
 | []=>0
 | [c]=>if c = e then 0 else 1
 | c :: d :: r=>if c = e then 0 else if c = 92 then 2 + scan e r else 1 + scan e (d :: r)
def Whole (e : UInt8) (p : By) : Prop := ∀ t,scan e (p ++ t) = p.length + scan e t
theorem Whole.nil (e : UInt8) : Whole e []:=fun t=>by simp
def wdB (x : By × Bool) : By:=if x.2 then 34 :: x.1 ++ [34] else x.1
def Good (x : By × Bool) : Prop:=if x.2 then Whole 34 x.1 else Whole 32 x.1 ∧ ∃ c r,x.1 = c :: r ∧ c ≠ 32 ∧ c ≠ 34
end Go.Proofs.YtekafhogiambaaaGreatDoor.Rd
namespace Go.Proofs.YtekafhogiambaaaGreatDoor.Rd
def parts (t : Nat) : List Nat :=
 if t = 1 then [1,0,0,0,0,0,0] else if t = 2 then [5,0,0,0,0,0,0] else if t = 5 then [5,0,0,0,0,0,0]
 else if t = 6 then [5,7,9,9,9,9,9] else if t = 12 then [5,0,0,0,0,0,0] else if t = 15 then [8,5,0,0,0,0,0]
 else if t = 16 then [3,0,0,0,0,0,0] else if t = 28 then [2,0,0,0,0,0,0] else if t = 33 then [8,8,8,6,0,0,0] else [4,0,0,0,0,0,0]
theorem by_type {P : Nat → Prop} (h1 : P 1) (h2 : P 2) (h5 : P 5) (h6 : P 6) (h12 : P 12) (h15 : P 15) (h16 : P 16) (h28 : P 28) (h33 : P 33) (ho : ∀ t,t ≠ 1 → t ≠ 2 → t ≠ 5 → t ≠ 6 → t ≠ 12 → t ≠ 15 → t ≠ 16 → t ≠ 28 → t ≠ 33 → P t) (t : Nat) : P t:=by
 by_cases a1 : t = 1
 · subst a1;exact h1
 by_cases a2 : t = 2
 · subst a2;exact h2
 by_cases a5 : t = 5
 · subst a5;exact h5
 by_cases a6 : t = 6
 · subst a6;exact h6
 by_cases a12 : t = 12
 · subst a12;exact h12
 by_cases a15 : t = 15
 · subst a15;exact h15
 by_cases a16 : t = 16
 · subst a16;exact h16
 by_cases a28 : t = 28
 · subst a28;exact h28
 by_cases a33 : t = 33
 · subst a33;exact h33
 exact ho t a1 a2 a5 a6 a12 a15 a16 a28 a33
theorem parts_other {t : Nat} (h1 : t ≠ 1) (h2 : t ≠ 2) (h5 : t ≠ 5) (h6 : t ≠ 6) (h12 : t ≠ 12) (h15 : t ≠ 15) (h16 : t ≠ 16) (h28 : t ≠ 28) (h33 : t ≠ 33) : parts t = [4,0,0,0,0,0,0]:=by
 unfold parts
 rw [if_neg h1,if_neg h2,if_neg h5,if_neg h6,if_neg h12,if_neg h15,if_neg h16,if_neg h28,if_neg h33]
theorem parts_len (t : Nat) : (parts t).length = 7:=by
 refine by_type (P:=fun t=>(parts t).length = 7) rfl rfl rfl rfl rfl rfl rfl rfl rfl (fun t a b c d e f g h i=>?_) t
 rw [parts_other a b c d e f g h i];rfl
theorem parts_lt (t : Nat) : ∀ p ∈ parts t,p ≤ 9:=by
 refine by_type (P:=fun t => ∀ p ∈ parts t,p ≤ 9) ?_ ?_ ?_ ?_ ?_ ?_ ?_ ?_ ?_ (fun t a b c d e f g h i=>?_) t
 all_goals first
  | (rw [parts_other a b c d e f g h i];decide)
  | decide
def nums (l : List Nat) : Nat:=(l.filter fun p=>p == 8 || p == 9).length
def hasRaw (l : List Nat) : Bool:=l.any fun p=>p == 1 || p == 2 || p == 3 || p == 4
def hasHost (l : List Nat) : Bool:=l.any fun p=>p == 5 || p == 6
def hasMail (l : List Nat) : Bool:=l.any fun p=>p == 7
theorem nums_snoc (l : List Nat) (p : Nat) : nums (l ++ [p]) = nums l + if p = 8 ∨ p = 9 then 1 else 0:=by
 unfold nums
 rw [List.filter_append,List.length_append]
 congr 1
 by_cases h : p = 8 ∨ p = 9
 · rw [if_pos h];rcases h with rfl | rfl <;> rfl
 · rw [if_neg h,List.filter_cons_of_neg (by simpa using h)];rfl
theorem nums_le {t k : Nat} : nums ((parts t).take k) ≤ 5:=by
 have h : nums (parts t) ≤ 5:=by
  refine by_type (P:=fun t=>nums (parts t) ≤ 5) (by decide) (by decide) (by decide) (by decide) (by decide) (by decide) (by decide) (by decide) (by decide) (fun t a b c d e f g h i=>?_) t
  rw [parts_other a b c d e f g h i];decide
 have e : nums (parts t) = nums ((parts t).take k) + nums ((parts t).drop k):=by
  unfold nums
  rw [← List.length_append,← List.filter_append,List.take_append_drop]
 omega
def hasN (d : Dt) : Nat → Nat
 | 0=>d.n0
 | 1=>d.n1
 | 2=>d.n2
 | 3=>d.n3
 | _=>d.n4
def fit (p : Nat) (d : Dt) (n : Nat) : Bool :=
 if p = 1 then d.raw.length == 4 else if p = 2 then d.raw.length == 16
 else if p = 3 then (match tx d.raw with | some (_ :: _)=>decide (d.raw.length ≤ 65535) | _=>false)
 else if p = 4 then decide (d.raw.length ≤ 65535)
 else if p = 5 ∨ p = 6 then nm d.host else if p = 7 then nm d.mail
 else if p = 8 then decide (hasN d n ≤ 65535) else true
def fitAll (d : Dt) : List Nat → Nat → Bool
 | [],_=>true
 | p :: r,n=>fit p d n && fitAll d r (n + if p = 8 ∨ p = 9 then 1 else 0)
theorem fitAll_snoc (d : Dt) (l : List Nat) (p n : Nat) : fitAll d (l ++ [p]) n = (fitAll d l n && fit p d (n + nums l)):=by
 induction l generalizing n with
 | nil=>simp [fitAll,nums]
 | cons q r ih =>
  have e : nums (q :: r) = (if q = 8 ∨ q = 9 then 1 else 0) + nums r:=by
   have : q :: r = [q] ++ r:=rfl
   rw [this]
   unfold nums
   rw [List.filter_append,List.length_append]
   congr 1
   by_cases h : q = 8 ∨ q = 9
   · rw [if_pos h];rcases h with rfl | rfl <;> rfl
   · rw [if_neg h,List.filter_cons_of_neg (by simpa using h)];rfl
  rw [List.cons_append,fitAll,ih,fitAll,e,Bool.and_assoc,Nat.add_assoc]
theorem fitAll_no {d : Dt} {l : List Nat} {k : Nat} (h : fitAll d (l.take k) 0 = false) : fitAll d l 0 = false:=by
 suffices H : ∀ (l : List Nat) (k n : Nat),fitAll d (l.take k) n = false → fitAll d l n = false from H l k 0 h
 intro l
 induction l with
 | nil=>intro k n h;simpa using h
 | cons q r ih =>
  intro k n h
  cases k with
  | zero=>simp [fitAll] at h
  | succ k =>
   rw [List.take_succ_cons,fitAll] at h
   rw [fitAll]
   cases hf : fit q d n with
   | false=>rfl
   | true=>rw [hf,Bool.true_and] at h;rw [Bool.true_and];exact ih _ _ h
def bare (l : List Nat) (d : Dt) : Bool :=
 (hasRaw l || d.raw == []) && (hasHost l || d.host == []) && (hasMail l || d.mail == []) &&
 (decide (0 < nums l) || d.n0 == 0) && (decide (1 < nums l) || d.n1 == 0) && (decide (2 < nums l) || d.n2 == 0) && (decide (3 < nums l) || d.n3 == 0) && (decide (4 < nums l) || d.n4 == 0)
theorem nm_nil : nm [] = false:=rfl
theorem nm_cases (l : By) : (l = [] ∧ nm l = false) ∨ (l ≠ [] ∧ nm l = true) ∨ (l ≠ [] ∧ nm l = false):=by
 by_cases h : l = []
 · exact .inl ⟨h,by rw [h];rfl⟩
 · cases hn : nm l
   · exact .inr (.inr ⟨h,rfl⟩)
   · exact .inr (.inl ⟨h,rfl⟩)
set_option maxHeartbeats 4000000 in
theorem ok_parts (t : Nat) (d : Dt) : ok t d = (fitAll d (parts t) 0 && bare (parts t) d):=by
 obtain ⟨r,ho,ma,n0,n1,n2,n3,n4⟩:=d
 refine by_type (P:=fun t=>ok t ⟨r,ho,ma,n0,n1,n2,n3,n4⟩ = (fitAll ⟨r,ho,ma,n0,n1,n2,n3,n4⟩ (parts t) 0 && bare (parts t) ⟨r,ho,ma,n0,n1,n2,n3,n4⟩)) ?_ ?_ ?_ ?_ ?_ ?_ ?_ ?_ ?_ (fun t a b c d e' f g h i=>?_) t
 case refine_10 =>
  have e1 : isHost t = false:=by simp [isHost, *]
  have e2 : isMail t = false:=by simp [isMail, *]
  have e3 : cnt t = 0:=by unfold cnt;rw [if_neg d,if_neg f,if_neg i]
  have hr : rawOk t r = decide (r.length ≤ 65535):=by
   unfold rawOk
   rw [e1,if_neg (by simp),if_neg a,if_neg h,if_neg g]
  unfold ok
  simp only
  rw [parts_other a b c d e' f g h i,e1,e2,hr]
  clear hr e1 e2 a b c d e' f g h i
  rw [Bool.eq_iff_iff]
  rcases nm_cases ho with ⟨q1,q2⟩ | ⟨q1,q2⟩ | ⟨q1,q2⟩ <;> rcases nm_cases ma with ⟨q3,q4⟩ | ⟨q3,q4⟩ | ⟨q3,q4⟩ <;> simp [nm_nil,q1,q2,q3,q4,numOk,e3,fitAll,fit,bare,hasRaw,hasHost,hasMail,nums,and_assoc]
 all_goals
  rw [Bool.eq_iff_iff]
  rcases nm_cases ho with ⟨q1,q2⟩ | ⟨q1,q2⟩ | ⟨q1,q2⟩ <;> rcases nm_cases ma with ⟨q3,q4⟩ | ⟨q3,q4⟩ | ⟨q3,q4⟩ <;>
   (simp [nm_nil,q1,q2,q3,q4,ok,rawOk,numOk,parts,fitAll,fit,bare,hasRaw,hasHost,hasMail,nums,isHost,isMail,cnt,bits,hasN,and_assoc,and_left_comm,and_comm] <;> (intros;rfl))
end Go.Proofs.YtekafhogiambaaaGreatDoor.Rd
namespace Go.Proofs.YtekafhogiambaaaGreatDoor.Rd
def grp (s : By) (j : Nat) : Nat:=256 * (s[2 * j]?.getD 0).toNat + (s[2 * j + 1]?.getD 0).toNat
def two (c : UInt8) : By:=hex (c.toNat / 16) ++ hex (c.toNat % 16)
def pcsQ (d : Dt) (ls : List By) (n p : Nat) : List (By × Bool) :=
 if p = 1 then [(joinB 46 (d.raw.map fun c=>dec c.toNat),false)]
 else if p = 2 then [(joinB 58 ((List.range 8).map fun i=>hex (grp d.raw i)),false)]
 else if p = 3 then ls.map fun l=>(Nm.esc true l,true)
 else if p = 4 then ([92,35],false) :: (dec d.raw.length,false) :: (if d.raw = [] then [] else [(d.raw.flatMap two,false)])
 else if p = 5 ∨ p = 6 then [(Nm.text d.host,false)] else if p = 7 then [(Nm.text d.mail,false)]
 else if p = 8 ∨ p = 9 then [(dec (hasN d n),false)] else []
def tellQ (d : Dt) (ls : List By) : List Nat → Nat → List (By × Bool)
 | [],_ => []
 | p :: r,n=>pcsQ d ls n p ++ tellQ d ls r (n + if p = 8 ∨ p = 9 then 1 else 0)
theorem digit_ne {c : UInt8} (h : isDig c = true) : c ≠ 32 ∧ c ≠ 34 ∧ c ≠ 92 ∧ c ≠ 46 ∧ c ≠ 58:=by
 simp only [isDig,Bool.and_eq_true,decide_eq_true_eq] at h
 refine ⟨?_,?_,?_,?_,?_⟩ <;> (rintro rfl;revert h;decide)
theorem dec_mem {n : Nat} {c : UInt8} (h : c ∈ dec n) : isDig c = true:=List.all_eq_true.1 (dec_digs n) c h
theorem hx_ne {k : Nat} (h : k < 16) : hx k ≠ 32 ∧ hx k ≠ 34 ∧ hx k ≠ 92 ∧ hx k ≠ 46 ∧ hx k ≠ 58:=by
 have hn:=hx_nat h
 have key : ∀ c : UInt8,(c.toNat < 48 ∨ 57 < c.toNat ∧ c.toNat < 97) → hx k ≠ c:=fun c hc e=>by
  rw [e] at hn
  split at hn <;> omega
 exact ⟨key 32 (by decide),key 34 (by decide),key 92 (by decide),key 46 (by decide),key 58 (by decide)⟩
theorem hex_mem {n : Nat} {c : UInt8} (h : c ∈ hex n) : c ≠ 32 ∧ c ≠ 34 ∧ c ≠ 92 ∧ c ≠ 46 ∧ c ≠ 58:=by
 induction n using Nat.strongRecOn with
 | ind n ih =>
  by_cases hn : n < 16
  · rw [hex_small hn,List.mem_singleton] at h
    rw [h]
    exact hx_ne hn
  · rw [hex_more hn,List.mem_append,List.mem_singleton] at h
    rcases h with h | h
    · exact ih (n / 16) (by omega) h
    · rw [h]
      exact hx_ne (Nat.mod_lt n (by decide))
theorem joinB_mem {b c : UInt8} : ∀ {ps : List By},c ∈ joinB b ps → c = b ∨ ∃ p ∈ ps,c ∈ p
 | [],h=>by simp [joinB] at h
 | [p],h=>.inr ⟨p,by simp,h⟩
 | p :: q :: r,h=>by
  rw [joinB,List.mem_append,List.mem_cons] at h
  rcases h with h | h | h
  · exact .inr ⟨p,by simp,h⟩
  · exact .inl h
  · rcases joinB_mem h with h | ⟨x,hx,h⟩
    · exact .inl h
    · exact .inr ⟨x,List.mem_cons_of_mem _ hx,h⟩
theorem joinB_pos {b : UInt8} {p : By} {ps : List By} (h : p ≠ []) : joinB b (p :: ps) ≠ []:=by
 cases ps with
 | nil=>exact h
 | cons q r=>rw [joinB];simp
theorem dec_ne (n : Nat) : dec n ≠ []:=fun e=>by have:=dec_pos n;rw [e] at this;simp at this
theorem hex_ne (n : Nat) : hex n ≠ []:=fun e=>by have:=hex_pos n;rw [e] at this;simp at this
end Go.Proofs.YtekafhogiambaaaGreatDoor.Rd
