/- Texts of the proofs, merged. -/
import Derived.Test.YtekafhogiambaaaGreatDoorZc7
set_option maxRecDepth 100000
namespace Go.Proofs.YtekafhogiambaaaGreatDoor
open Go.RowKit
def cutR (l : List UInt8) : Value:=.tuple #[sv (Nm.cutP l).1,sv (Nm.cutP l).2.1,.bool (Nm.cutP l).2.2]
def CutAt (l : List UInt8) (k : Nat) : Prop:=(k ≤ l.length ∧ Nm.cutP l = (l.take k ++ (Nm.cutP (l.drop k)).1,(Nm.cutP (l.drop k)).2)) ∨ (k = l.length + 1 ∧ Nm.cutP l = (l, [],false))
theorem CutAt.zero (l : List UInt8) : CutAt l 0:=.inl ⟨Nat.zero_le _,by simp⟩
theorem CutAt.plain {l : List UInt8} {k : Nat} (h : CutAt l k) (hk : k < l.length) (h46 : (l[k]).toNat ≠ 46) (h92 : (l[k]).toNat ≠ 92) : CutAt l (k + 1):=by
 rcases h with ⟨_,h⟩ | ⟨h,_⟩
 · refine .inl ⟨hk,?_⟩
   rw [h,Nm.drop_cons hk,Nm.cutP_plain h46 h92,List.take_succ_eq_append_getElem hk];simp only [List.append_assoc,List.cons_append,List.nil_append]
 · omega
theorem CutAt.back {l : List UInt8} {k : Nat} (h : CutAt l k) (hk : k < l.length) (h92 : (l[k]).toNat = 92) : CutAt l (k + 1 + 1):=by
 rcases h with ⟨_,h⟩ | ⟨h,_⟩
 · by_cases h2 : k + 1 < l.length
   · refine .inl ⟨h2,?_⟩
     rw [h,Nm.drop_cons hk,Nm.drop_cons h2,Nm.cutP_back h92,List.take_succ_eq_append_getElem h2,List.take_succ_eq_append_getElem hk];simp only [List.append_assoc,List.cons_append,List.nil_append]
   · refine .inr ⟨by omega,?_⟩
     have e : l.drop k = [l[k]]:=by rw [Nm.drop_cons hk,List.drop_eq_nil_of_le (by omega)]
     rw [h,e,Nm.cutP_last (by omega),← e,List.take_append_drop]
 · omega
theorem CutAt.dot {l : List UInt8} {k : Nat} (h : CutAt l k) (hk : k < l.length) (h46 : (l[k]).toNat = 46) : cutR l = .tuple #[sv (l.take k),sv (l.drop (k + 1)),.bool true]:=by
 rcases h with ⟨_,h⟩ | ⟨h,_⟩
 · unfold cutR
   rw [h,Nm.drop_cons hk,Nm.cutP_dot h46];simp
 · omega
theorem CutAt.done {l : List UInt8} {k : Nat} (h : CutAt l k) (hk : l.length ≤ k) : cutR l = .tuple #[sv l,sv [],.bool false]:=by
 unfold cutR
 rcases h with ⟨h1,h⟩ | ⟨_,h⟩
 · obtain rfl : k = l.length:=by omega
   rw [h,List.drop_length,List.take_length];simp [Nm.cutP]
 · rw [h]
theorem CutAt.le {l : List UInt8} {k : Nat} (h : CutAt l k) : k ≤ l.length + 1:=by rcases h with ⟨h,_⟩ | ⟨h,_⟩ <;> omega
set_option maxHeartbeats 1000000 in
theorem cut_any (s : ByteArray) (w : World) (hs : s.size ≤ 140737488355328) :
 Calls Tryz.prog 133 #[.string s] w fun e w' => e = .returned (cutR s.data.toList) ∧ ∃ n,w' = w.drewN n:=by
 have HSZ : Hid (s.data.toList.length = s.size):=by show _ = _;simp
 go_enter Tryz.func133,Tryz.ntmps133
 go_wp2
 go_loopw [5] (fun i wr => ∃ k : Nat,i = .int .i64 k ∧ CutAt s.data.toList k ∧ wr = w) (fun i _=>s.size + 1 - (intOf i).toNat)
 case atStart=>exact ⟨0,rfl,CutAt.zero _,rfl⟩
 case round =>
  obtain ⟨k,rfl,hat,rfl⟩:=hrel
  have hle:=hat.le
  rw [HSZ.out] at hle
  have AT:=Lib.hid hat
  clear hat
  by_cases hlt : k < s.size
  · have hlt' : k < s.data.toList.length:=by rw [HSZ.out];exact hlt
    have he : s.data.toList[k]'hlt' = s[k]:=rfl
    have HE:=Lib.hid he
    have h8:=s[k].toNat_lt
    clear he
    by_cases h92 : s[k].toNat = 92
    · have h92b : ((s[k].toNat : Int) == 92) = true:=by simp [h92]
      have HN:=Lib.hid (AT.out.back hlt' h92)
      clear h92
      go_wp2
      go_roundw
      case rel=>exact ⟨k + 1 + 1,by go_num,HN.out,trivial⟩
      case measure=>simp [intOf];omega
    · have h92b : ((s[k].toNat : Int) == 92) = false:=beq_eq_false_iff_ne.2 (by omega)
      by_cases h46 : s[k].toNat = 46
      · have h46b : ((s[k].toNat : Int) == 46) = true:=by simp [h46]
        have HN:=Lib.hid (AT.out.dot hlt' h46)
        have e1 : Value.string (s.extract 0 k) = sv (s.data.toList.take k):=by rw [string_eq (extract_list s 0 k)];rfl
        have e2 : Value.string (s.extract (k + 1) s.size) = sv (s.data.toList.drop (k + 1)):=by
         rw [string_eq (extract_list s (k + 1) s.size),List.take_of_length_le (by simp)]
        have E1:=Lib.hid e1
        have E2:=Lib.hid e2
        clear h92 h46 e1 e2
        go_wp2
        go_quiet (fail)
        go_wp2
        go_ret3
        refine ⟨?_,_,rfl⟩
        rw [HN.out,← E1.out,← E2.out];rfl
      · have h46b : ((s[k].toNat : Int) == 46) = false:=beq_eq_false_iff_ne.2 (by omega)
        have HN:=Lib.hid (AT.out.plain hlt' h46 h92)
        clear h92 h46
        go_wp2
        go_roundw
        case rel=>exact ⟨k + 1,by go_num,HN.out,trivial⟩
        case measure=>simp [intOf];omega
  · have HN:=Lib.hid (AT.out.done (by rw [HSZ.out];omega))
    go_wp2
    go_ret3
    exact ⟨by rw [HN.out];rfl,0,rfl⟩
def TextPost (w : World) (g B : Nat) (base : List (List UInt8)) (l : List UInt8) (e : Ending) (w' : World) : Prop :=
 Below B w w' ∧ match Nm.labelsP (Nm.pieces l).1 with
  | .error n => ∃ b,e = .returned (.tuple #[.bool b,.int .i64 (n : Nat)]) ∧ (n = 12 ∨ n = 10)
  | .ok ls=>e = .returned (.tuple #[.bool (Nm.pieces l).2,.int .i64 0]) ∧ RowIs w' g B (base ++ ls)
def Told (l t : List UInt8) (ls : List (List UInt8)) : Prop :=
 (Nm.pieces l).2 = (Nm.pieces t).2 ∧ Nm.labelsP (Nm.pieces l).1 = match Nm.labelsP (Nm.pieces t).1 with | .error n=>.error n | .ok r=>.ok (ls ++ r)
theorem Told.start (l : List UInt8) : Told l l []:=⟨rfl,by rcases Nm.labelsP (Nm.pieces l).1 with n | r <;> rfl⟩
theorem labelsP_one (p b : List UInt8) (h : Nm.unesc p = some b) (hg : 1 ≤ b.length ∧ b.length ≤ 63) : Nm.labelsP [p] = .ok [b]:=by
 unfold Nm.labelsP;rw [h];simp only [if_pos hg];rfl
theorem labelsP_esc (p : List UInt8) (ps : List (List UInt8)) (h : Nm.unesc p = none) : Nm.labelsP (p :: ps) = .error 12:=by
 unfold Nm.labelsP;rw [h]
theorem labelsP_bad (p b : List UInt8) (ps : List (List UInt8)) (h : Nm.unesc p = some b) (hg : ¬ (1 ≤ b.length ∧ b.length ≤ 63)) : Nm.labelsP (p :: ps) = .error 10:=by
 unfold Nm.labelsP;rw [h];simp only [if_neg hg]
theorem labelsP_cons (p b : List UInt8) (ps : List (List UInt8)) (h : Nm.unesc p = some b) (hg : 1 ≤ b.length ∧ b.length ≤ 63) :
 Nm.labelsP (p :: ps) = match Nm.labelsP ps with | .error e=>.error e | .ok ls=>.ok (b :: ls):=by
 conv=>lhs;unfold Nm.labelsP
 rw [h];simp only [if_pos hg]
 rcases Nm.labelsP ps with n | r <;> rfl
theorem pieces_head (t : List UInt8) : ∃ ps,(Nm.pieces t).1 = (Nm.cutP t).1 :: ps:=by
 by_cases hd : (Nm.cutP t).2.2 = true
 · by_cases h2 : (Nm.cutP t).2.1.length = 0
   · exact ⟨_,by rw [Nm.pieces_whole hd h2]⟩
   · exact ⟨_,by rw [Nm.pieces_more hd h2]⟩
 · exact ⟨_,by rw [Nm.pieces_end (by simpa using hd)]⟩
theorem Told.esc {l t : List UInt8} {ls : List (List UInt8)} (h : Told l t ls) (hu : Nm.unesc (Nm.cutP t).1 = none) : Nm.labelsP (Nm.pieces l).1 = .error 12:=by
 obtain ⟨ps,hp⟩:=pieces_head t
 rw [h.2,hp,labelsP_esc _ _ hu]
theorem Told.bad {l t b : List UInt8} {ls : List (List UInt8)} (h : Told l t ls) (hu : Nm.unesc (Nm.cutP t).1 = some b) (hg : ¬ (1 ≤ b.length ∧ b.length ≤ 63)) : Nm.labelsP (Nm.pieces l).1 = .error 10:=by
 obtain ⟨ps,hp⟩:=pieces_head t
 rw [h.2,hp,labelsP_bad _ _ _ hu hg]
theorem Told.last {l t b : List UInt8} {ls : List (List UInt8)} (h : Told l t ls) (hu : Nm.unesc (Nm.cutP t).1 = some b) (hg : 1 ≤ b.length ∧ b.length ≤ 63) (hd : (Nm.cutP t).2.2 = false ∨ (Nm.cutP t).2.1.length = 0) :
 Nm.labelsP (Nm.pieces l).1 = .ok (ls ++ [b]) ∧ (Nm.pieces l).2 = (Nm.cutP t).2.2:=by
 rcases hc : (Nm.cutP t).2.2 with _ | _
 · have hp:=Nm.pieces_end hc
   rw [h.2,h.1,hp,labelsP_one _ _ hu hg];exact ⟨rfl,rfl⟩
 · have hp := Nm.pieces_whole hc (by rcases hd with hd | hd; · rw [hd] at hc; cases hc
                                     · exact hd)
   rw [h.2,h.1,hp,labelsP_one _ _ hu hg];exact ⟨rfl,rfl⟩
theorem Told.step {l t b : List UInt8} {ls : List (List UInt8)} (h : Told l t ls) (hu : Nm.unesc (Nm.cutP t).1 = some b) (hg : 1 ≤ b.length ∧ b.length ≤ 63) (hc : (Nm.cutP t).2.2 = true) (h2 : (Nm.cutP t).2.1.length ≠ 0) :
 Told l (Nm.cutP t).2.1 (ls ++ [b]):=by
 have hp:=Nm.pieces_more hc h2
 refine ⟨by rw [h.1,hp],?_⟩
 rw [h.2,hp,labelsP_cons _ _ _ hu hg]
 rcases Nm.labelsP (Nm.pieces (Nm.cutP t).2.1).1 with n | r
 · rfl
 · simp
theorem cut_len (t : List UInt8) : (Nm.cutP t).1.length ≤ t.length ∧ (Nm.cutP t).2.1.length ≤ t.length:=by
 suffices h : ∀ n (t : List UInt8),t.length ≤ n → (Nm.cutP t).1.length ≤ t.length ∧ (Nm.cutP t).2.1.length ≤ t.length from h _ t (Nat.le_refl _)
 intro n
 induction n with
 | zero=>intro t h;have : t = []:=List.eq_nil_of_length_eq_zero (by omega);subst this;simp [Nm.cutP]
 | succ n ih =>
  intro t h
  match t with
  | []=>simp [Nm.cutP]
  | [c] => by_cases h46 : c.toNat = 46
           · rw [Nm.cutP_dot h46];simp
           · rw [Nm.cutP_last h46];simp
  | c :: d :: t =>
   by_cases h46 : c.toNat = 46
   · rw [Nm.cutP_dot h46];simp
   · by_cases h92 : c.toNat = 92
     · rw [Nm.cutP_back h92];have:=ih t (by simp at h;omega);simp;omega
     · rw [Nm.cutP_plain h46 h92];have:=ih (d :: t) (by simpa using h);simp at this ⊢;omega
theorem text_err {w w' : World} {g B n : Nat} {base : List (List UInt8)} {l : List UInt8} {x y : Value} (hb : Below B w w') (h : Nm.labelsP (Nm.pieces l).1 = .error n) (hx : ∃ b,x = .bool b) (hy : y = .int .i64 (n : Nat)) (hn : n = 12 ∨ n = 10) :
 TextPost w g B base l (.returned (.tuple #[x,y])) w':=by
 obtain ⟨b,rfl⟩:=hx
 refine ⟨hb,?_⟩
 rw [h,hy];exact ⟨b,rfl,hn⟩
theorem text_ok {w w' : World} {g B : Nat} {base ls : List (List UInt8)} {l : List UInt8} {x y : Value} {b : Bool} (hb : Below B w w') (h : Nm.labelsP (Nm.pieces l).1 = .ok ls ∧ (Nm.pieces l).2 = b) (hx : x = .bool b) (hy : y = .int .i64 0) (hr : RowIs w' g B (base ++ ls)) :
 TextPost w g B base l (.returned (.tuple #[x,y])) w':=by
 refine ⟨hb,?_⟩
 rw [h.1,h.2,hx,hy];exact ⟨rfl,hr⟩
theorem Bytes_no (l : List UInt8) (w : World) (hL : Lay w) (hs : l.length ≤ 140737488355328) (h : Nm.unesc l = none) :
 Calls Tryz.prog 134 #[.string ⟨l.toArray⟩] w fun e w' => e = .returned (.tuple #[.string ⟨#[]⟩,.int .i64 12]) ∧ Below w.heap.size w w' :=
 (Bytes_any ⟨l.toArray⟩ w hL hs).mono fun _ _ ⟨a,b⟩=>⟨by rw [a];show Ending.returned (unR l) = _;unfold unR;rw [h],b⟩
theorem Bytes_yes (l r : List UInt8) (w : World) (hL : Lay w) (hs : l.length ≤ 140737488355328) (h : Nm.unesc l = some r) :
 Calls Tryz.prog 134 #[.string ⟨l.toArray⟩] w fun e w' => e = .returned (.tuple #[.string ⟨r.toArray⟩,.int .i64 0]) ∧ Below w.heap.size w w' :=
 (Bytes_any ⟨l.toArray⟩ w hL hs).mono fun _ _ ⟨a,b⟩=>⟨by rw [a];show Ending.returned (unR l) = _;unfold unR;rw [h],b⟩
theorem cut_of (l : List UInt8) (w : World) (hs : l.length ≤ 140737488355328) :
 Calls Tryz.prog 133 #[.string ⟨l.toArray⟩] w fun e w' => e = .returned (.tuple #[.string ⟨(Nm.cutP l).1.toArray⟩,.string ⟨(Nm.cutP l).2.1.toArray⟩,.bool (Nm.cutP l).2.2]) ∧ ∃ n,w' = w.drewN n :=
 cut_any ⟨l.toArray⟩ w hs
set_option maxHeartbeats 1000000 in
theorem addText_any (w : World) (g B : Nat) (base : List (List UInt8)) (l : List UInt8) (h : RowIs w g B base) (hB : B ≤ g) (h3 : layTop ≤ B) (hL : Lay w) (hs : l.length ≤ 140737488355328) :
 Calls Tryz.prog 109 #[.pointer (some ⟨g,0,none⟩),.string ⟨l.toArray⟩] w (TextPost w g B base l):=by
 have HR:=Lib.hid h
 have HL:=Lib.hid hL
 clear h hL
 go_enter Tryz.func109,Tryz.ntmps109
 go_wp2
 go_loopw [1] (fun x wr => ∃ t ls,x = .string ⟨t.toArray⟩ ∧ t.length ≤ l.length ∧ Told l t ls ∧ RowIs wr g B (base ++ ls) ∧ Below B w wr) (fun x _=>match x with | .string s=>s.size | _=>0)
 case atStart=>exact ⟨l, [],rfl,Nat.le_refl _,Told.start l,by simpa using HR.out,Below.refl _ _⟩
 case round =>
  obtain ⟨t,ls,rfl,htl,hto,hrow,hb⟩:=hrel
  have HT:=Lib.hid hto
  have HW:=Lib.hid hrow
  have HB:=Lib.hid hb
  have HLW:=Lib.hid (HL.out.below hb h3)
  have hgs:=hrow.lt
  have hcl:=cut_len t
  have hc1:=hcl.1
  have hc2:=hcl.2
  have HC:=Lib.hid (cut_of t wr (by omega))
  clear hto hrow hb hcl
  rcases hu : Nm.unesc (Nm.cutP t).1 with _ | b
  · have HE:=Lib.hid (HT.out.esc hu)
    have HU:=Lib.hid hu
    clear hu
    generalize (Nm.cutP t).1 = p at *
    generalize (Nm.cutP t).2.1 = r at *
    generalize (Nm.cutP t).2.2 = d at *
    go_wp2_with (first
     | (go_at_call 133;refine HC.out.mono ?_;rintro e1 w1 ⟨rfl,nn,rfl⟩)
     | (go_at_call 134;refine (Bytes_no p _ (HLW.out.drewN nn) (by omega) HU.out).mono ?_;rintro e2 w2 ⟨rfl,hb2⟩))
    go_ret2
    exact text_err (HB.out.trans ((below_drewN (Below.refl _ _) nn).trans (hb2.mono (by show B ≤ wr.heap.size;omega)))) HE.out ⟨_,rfl⟩ rfl (.inl rfl)
  · have hul:=Nm.unesc_len _ _ _ (Nat.le_refl _) hu
    by_cases hg : 1 ≤ b.length ∧ b.length ≤ 63
    · have hls:=fun hd=>HT.out.last hu hg hd
      have hst:=fun hc h2=>HT.out.step hu hg hc h2
      have hless:=Nm.cutP_less _ t (Nat.le_refl _)
      have HLS:=Lib.hid hls
      have HST:=Lib.hid hst
      have HLE:=Lib.hid hless
      have HU:=Lib.hid hu
      have HG:=Lib.hid hg
      clear hls hst hless hu hg
      generalize (Nm.cutP t).1 = p at *
      generalize (Nm.cutP t).2.1 = r at *
      generalize (Nm.cutP t).2.2 = d at *
      rcases d with _ | _
      · go_wp2_with (first
         | (go_at_call 133;refine HC.out.mono ?_;rintro e1 w1 ⟨rfl,nn,rfl⟩)
         | (go_at_call 134;refine (Bytes_yes p b _ (HLW.out.drewN nn) (by omega) HU.out).mono ?_;rintro e2 w2 ⟨rfl,hb2⟩;have hr2 : RowIs w2 g B (base ++ ls):=RowIs.below (w:=wr.drewN nn) HW.out hb2 (Nat.le_refl _))
         | (go_at_call 135;refine (add_ok _ g B _ b hr2 hB HG.out).mono ?_;rintro e3 w3 ⟨rfl,hb3,ht3,hr3⟩))
        go_ret2
        exact text_ok (HB.out.trans (((below_drewN (Below.refl _ _) nn).trans (hb2.mono (by show B ≤ wr.heap.size;omega))).trans hb3)) (HLS.out (.inl trivial)) rfl rfl (by rw [← List.append_assoc];exact hr3)
      · by_cases hr0 : r.length = 0
        · have h1 : List.isEmpty r = true:=by rw [List.isEmpty_iff];exact List.eq_nil_of_length_eq_zero hr0
          have HR0:=Lib.hid hr0
          clear hr0
          go_wp2_with (first
           | (go_at_call 133;refine HC.out.mono ?_;rintro e1 w1 ⟨rfl,nn,rfl⟩)
           | (go_at_call 134;refine (Bytes_yes p b _ (HLW.out.drewN nn) (by omega) HU.out).mono ?_;rintro e2 w2 ⟨rfl,hb2⟩;have hr2 : RowIs w2 g B (base ++ ls):=RowIs.below (w:=wr.drewN nn) HW.out hb2 (Nat.le_refl _))
           | (go_at_call 135;refine (add_ok _ g B _ b hr2 hB HG.out).mono ?_;rintro e3 w3 ⟨rfl,hb3,ht3,hr3⟩))
          go_ret2
          exact text_ok (HB.out.trans (((below_drewN (Below.refl _ _) nn).trans (hb2.mono (by show B ≤ wr.heap.size;omega))).trans hb3)) (HLS.out (.inr HR0.out)) rfl rfl (by rw [← List.append_assoc];exact hr3)
        · have h1 : List.isEmpty r = false:=by
           rcases r with _ | ⟨a,r⟩
           · exact absurd rfl hr0
           · rfl
          have HR0:=Lib.hid hr0
          have hrl:=HLE.out rfl
          clear hr0
          go_wp2_with (first
           | (go_at_call 133;refine HC.out.mono ?_;rintro e1 w1 ⟨rfl,nn,rfl⟩)
           | (go_at_call 134;refine (Bytes_yes p b _ (HLW.out.drewN nn) (by omega) HU.out).mono ?_;rintro e2 w2 ⟨rfl,hb2⟩;have hr2 : RowIs w2 g B (base ++ ls):=RowIs.below (w:=wr.drewN nn) HW.out hb2 (Nat.le_refl _))
           | (go_at_call 135;refine (add_ok _ g B _ b hr2 hB HG.out).mono ?_;rintro e3 w3 ⟨rfl,hb3,ht3,hr3⟩))
          go_roundw
          case rel=>exact ⟨r,ls ++ [b],rfl,by omega,HST.out trivial HR0.out,by rw [← List.append_assoc];exact hr3,HB.out.trans (((below_drewN (Below.refl _ _) nn).trans (hb2.mono (by show B ≤ wr.heap.size;omega))).trans hb3)⟩
          case measure=>simpa [mk_size] using hrl
    · have HE:=Lib.hid (HT.out.bad hu hg)
      have HU:=Lib.hid hu
      have HG:=Lib.hid hg
      clear hu hg
      generalize (Nm.cutP t).1 = p at *
      generalize (Nm.cutP t).2.1 = r at *
      generalize (Nm.cutP t).2.2 = d at *
      go_wp2_with (first
       | (go_at_call 133;refine HC.out.mono ?_;rintro e1 w1 ⟨rfl,nn,rfl⟩)
       | (go_at_call 134;refine (Bytes_yes p b _ (HLW.out.drewN nn) (by omega) HU.out).mono ?_;rintro e2 w2 ⟨rfl,hb2⟩;have hr2 : RowIs w2 g B (base ++ ls):=RowIs.below (w:=wr.drewN nn) HW.out hb2 (Nat.le_refl _))
       | (go_at_call 135;refine (add_no _ g B _ b hr2 hB (by omega) HG.out).mono ?_;rintro e3 w3 ⟨rfl,hb3,ht3,hr3⟩))
      go_ret2
      exact text_err (HB.out.trans (((below_drewN (Below.refl _ _) nn).trans (hb2.mono (by show B ≤ wr.heap.size;omega))).trans hb3)) HE.out ⟨_,rfl⟩ rfl (.inr rfl)
theorem nameR_eq (ls : List (List UInt8)) : nameR ls = .tuple #[sv (Nm.glueR ls).1,.int .i64 ((Nm.glueR ls).2 : Nat)]:=by
 unfold nameR Nm.glueR
 by_cases h : 255 < (Nm.body ls).length + 1
 · rw [if_pos h,if_pos h];rfl
 · rw [if_neg h,if_neg h];rfl
def parseR (l o : List UInt8) : Value:=.tuple #[sv (Nm.parse l o).1,.int .i64 ((Nm.parse l o).2 : Nat)]
theorem Check_no (s : ByteArray) (w : World) (hs : s.size ≤ 140737488355328) (h : Nm.split s.data.toList = none) :
 Calls Tryz.prog 13 #[.string s] w fun e w' => e = .returned (.int .i64 11) ∧ Below w.heap.size w w' :=
 (Check_any s w hs).mono fun _ _ ⟨a,b⟩=>⟨by rw [a,h];rfl,b⟩
theorem Check_yes (s : ByteArray) (ls : List (List UInt8)) (w : World) (hs : s.size ≤ 140737488355328) (h : Nm.split s.data.toList = some ls) :
 Calls Tryz.prog 13 #[.string s] w fun e w' => e = .returned (.int .i64 0) ∧ Below w.heap.size w w' :=
 (Check_any s w hs).mono fun _ _ ⟨a,b⟩=>⟨by rw [a,h];rfl,b⟩
set_option maxHeartbeats 1000000 in
theorem Parse_any (s o : ByteArray) (w : World) (hL : Lay w) (hs : s.size ≤ 140737488355328) (ho : o.size ≤ 140737488355328) :
 Calls Tryz.prog 90 #[.string s,.string o] w fun e w' => e = .returned (parseR s.data.toList o.data.toList) ∧ Below w.heap.size w w':=by
 have h3:=hL.size
 rcases hn : Nm.split o.data.toList with _ | os
 · have hr : parseR s.data.toList o.data.toList = .tuple #[sv [],.int .i64 11]:=by unfold parseR Nm.parse;rw [hn];rfl
   rw [hr]
   have HC:=Lib.hid (Check_no o w ho hn)
   clear hr hn
   go_enter Tryz.func90,Tryz.ntmps90
   go_wp2_with (first | (go_at_call 13;refine HC.out.mono ?_;rintro e1 w1 ⟨rfl,hb1⟩))
   go_ret2
   exact ⟨rfl,hb1⟩
 · have HC:=Lib.hid (Check_yes o os w ho hn)
   by_cases hdot : s.data.toList = [46]
   · have hr : parseR s.data.toList o.data.toList = .tuple #[sv [0],.int .i64 0]:=by unfold parseR Nm.parse;rw [hn,hdot];rfl
     rw [hr]
     have hd1 : s.toList = [46]:=by rw [Lib.toList_data];exact hdot
     clear hr hn
     go_enter Tryz.func90,Tryz.ntmps90
     go_wp2_with (first | (go_at_call 13;refine HC.out.mono ?_;rintro e1 w1 ⟨rfl,hb1⟩))
     go_ret2
     exact ⟨rfl,hb1⟩
   · have hd1 : (s.toList == [46]) = false:=by rw [Lib.toList_data];simpa using hdot
     have hgl:=(Nm.split_some.1 hn)
     have HN:=Lib.hid hn
     have HL1:=fun (w1 : World) (hb : Below w.heap.size w w1)=>Lib.hid (hL.below hb h3)
     have hs2 : s = ⟨s.data.toList.toArray⟩:=string_eq rfl
     have hsl : s.data.toList.length ≤ 140737488355328:=by simpa using hs
     have hrow : ∀ w1 : World,Below w.heap.size w w1 → RowIs (w1.alloc (.cells #[.slice none 0 0,.bool false] 169)) w1.heap.size w1.heap.size []:=fun w1 _=>RowIs.start w1 _
     have hT:=fun (w1 : World) (hb : Below w.heap.size w w1)=>Lib.hid (addText_any _ _ _ [] s.data.toList (hrow w1 hb) (Nat.le_refl _) (by have:=hb.size;omega) ((hL.below hb h3).below ((Below.refl _ _).alloc (Nat.le_refl _) _) (by have:=hb.size;omega)) hsl)
     rw [← hs2] at hT
     have HT:=Lib.hid hT
     have HP : Hid (parseR s.data.toList o.data.toList = match Nm.labelsP (Nm.pieces s.data.toList).1 with
      | .error e=>.tuple #[sv [],.int .i64 (e : Nat)]
      | .ok ls=>nameR (if (Nm.pieces s.data.toList).2 then ls else ls ++ os)):=by
      unfold parseR Nm.parse
      rw [Hid,hn]
      simp only [if_neg hdot]
      rcases Nm.labelsP (Nm.pieces s.data.toList).1 with e | ls
      · rfl
      · exact (nameR_eq _).symm
     clear hn hdot hT hrow hs2
     rcases hlp : Nm.labelsP (Nm.pieces s.data.toList).1 with n | ls
     · have hne : ∀ n : Nat,(n = 12 ∨ n = 10) → ((n : Int) != 0) = true:=fun n h=>by rw [bne_iff_ne];omega
       have HNE:=Lib.hid hne
       have HLP:=Lib.hid hlp
       rw [hlp] at HP
       clear hlp hne
       go_enter Tryz.func90,Tryz.ntmps90
       go_wp2_with (first
        | (go_at_call 13;refine HC.out.mono ?_;rintro e1 w1 ⟨rfl,hb1⟩)
        | (go_at_call 109;refine (HT.out w1 hb1).out.mono ?_;rintro e2 w2 ⟨hb2,hpost⟩;rw [HLP.out] at hpost;obtain ⟨b,rfl,hnn⟩:=hpost;have hn0:=HNE.out n hnn))
       go_ret2
       exact ⟨by rw [HP.out];rfl,hb1.trans ((((Below.refl _ _).alloc (Nat.le_refl _) _).trans hb2).mono hb1.size)⟩
     · have HLP:=Lib.hid hlp
       rw [hlp] at HP
       rcases hwh : (Nm.pieces s.data.toList).2 with _ | _
       · have HWH:=Lib.hid hwh
         rw [hwh] at HP
         clear hlp hwh
         by_cases hlong : 255 < (Nm.body (ls ++ os)).length + 1
         · have HLG:=Lib.hid hlong
           have HF : Hid (parseR s.data.toList o.data.toList = .tuple #[.string ⟨#[]⟩,.int .i64 2]):=by rw [HP.out];show nameR (ls ++ os) = _;unfold nameR;rw [if_pos hlong]
           clear hlong
           go_enter Tryz.func90,Tryz.ntmps90
           go_wp2_with (first
            | (go_at_call 13;refine HC.out.mono ?_;rintro e1 w1 ⟨rfl,hb1⟩)
            | (go_at_call 109;refine (HT.out w1 hb1).out.mono ?_;rintro e2 w2 ⟨hb2,hpost⟩;rw [HLP.out,HWH.out] at hpost;obtain ⟨rfl,hr2⟩:=hpost;have HB12:=Lib.hid (hb1.trans ((((Below.refl _ _).alloc (Nat.le_refl _) _).trans hb2).mono hb1.size));have HR2:=Lib.hid hr2;clear hr2)
            | (go_at_call 110;refine (addName_any _ w1.heap.size w1.heap.size _ os o HR2.out (Nat.le_refl _) ho HN.out).mono ?_;rintro e3 w3 ⟨rfl,hb3,hr3⟩;have HR3:=Lib.hid hr3;clear hr3)
            | (go_at_call 111;refine (rowName_long _ w1.heap.size w1.heap.size _ HR3.out HLG.out).mono ?_;rintro e4 w4 ⟨rfl,rfl⟩))
           go_ret2
           exact ⟨by rw [HF.out];rfl,HB12.out.trans (hb3.mono hb1.size)⟩
         · have HLG:=Lib.hid hlong
           have HF : Hid (parseR s.data.toList o.data.toList = .tuple #[sv (Nm.glue (ls ++ os)),.int .i64 0]):=by rw [HP.out];show nameR (ls ++ os) = _;unfold nameR;rw [if_neg hlong]
           clear hlong
           go_enter Tryz.func90,Tryz.ntmps90
           go_wp2_with (first
            | (go_at_call 13;refine HC.out.mono ?_;rintro e1 w1 ⟨rfl,hb1⟩)
            | (go_at_call 109;refine (HT.out w1 hb1).out.mono ?_;rintro e2 w2 ⟨hb2,hpost⟩;rw [HLP.out,HWH.out] at hpost;obtain ⟨rfl,hr2⟩:=hpost;have HB12:=Lib.hid (hb1.trans ((((Below.refl _ _).alloc (Nat.le_refl _) _).trans hb2).mono hb1.size));have HR2:=Lib.hid hr2;clear hr2)
            | (go_at_call 110;refine (addName_any _ w1.heap.size w1.heap.size _ os o HR2.out (Nat.le_refl _) ho HN.out).mono ?_;rintro e3 w3 ⟨rfl,hb3,hr3⟩;have HR3:=Lib.hid hr3;clear hr3)
            | (go_at_call 111;refine (rowName_ok _ w1.heap.size w1.heap.size _ HR3.out HLG.out).mono ?_;rintro e4 w4 ⟨rfl,rfl⟩))
           go_ret2
           exact ⟨by rw [HF.out];rfl,HB12.out.trans (hb3.mono hb1.size)⟩
       · have HWH:=Lib.hid hwh
         rw [hwh] at HP
         clear hlp hwh
         by_cases hlong : 255 < (Nm.body ls).length + 1
         · have HLG:=Lib.hid hlong
           have HF : Hid (parseR s.data.toList o.data.toList = .tuple #[.string ⟨#[]⟩,.int .i64 2]):=by rw [HP.out];show nameR ls = _;unfold nameR;rw [if_pos hlong]
           clear hlong
           go_enter Tryz.func90,Tryz.ntmps90
           go_wp2_with (first
            | (go_at_call 13;refine HC.out.mono ?_;rintro e1 w1 ⟨rfl,hb1⟩)
            | (go_at_call 109;refine (HT.out w1 hb1).out.mono ?_;rintro e2 w2 ⟨hb2,hpost⟩;rw [HLP.out,HWH.out] at hpost;obtain ⟨rfl,hr2⟩:=hpost;have HB12:=Lib.hid (hb1.trans ((((Below.refl _ _).alloc (Nat.le_refl _) _).trans hb2).mono hb1.size));have HR2:=Lib.hid hr2;clear hr2)
            | (go_at_call 111;refine (rowName_long _ w1.heap.size w1.heap.size _ HR2.out HLG.out).mono ?_;rintro e4 w4 ⟨rfl,rfl⟩))
           go_ret2
           exact ⟨by rw [HF.out];rfl,HB12.out⟩
         · have HLG:=Lib.hid hlong
           have HF : Hid (parseR s.data.toList o.data.toList = .tuple #[sv (Nm.glue ls),.int .i64 0]):=by rw [HP.out];show nameR ls = _;unfold nameR;rw [if_neg hlong]
           clear hlong
           go_enter Tryz.func90,Tryz.ntmps90
           go_wp2_with (first
            | (go_at_call 13;refine HC.out.mono ?_;rintro e1 w1 ⟨rfl,hb1⟩)
            | (go_at_call 109;refine (HT.out w1 hb1).out.mono ?_;rintro e2 w2 ⟨hb2,hpost⟩;rw [HLP.out,HWH.out] at hpost;obtain ⟨rfl,hr2⟩:=hpost;have HB12:=Lib.hid (hb1.trans ((((Below.refl _ _).alloc (Nat.le_refl _) _).trans hb2).mono hb1.size));have HR2:=Lib.hid hr2;clear hr2)
            | (go_at_call 111;refine (rowName_ok _ w1.heap.size w1.heap.size _ HR2.out HLG.out).mono ?_;rintro e4 w4 ⟨rfl,rfl⟩))
           go_ret2
           exact ⟨by rw [HF.out];rfl,HB12.out⟩
end Go.Proofs.YtekafhogiambaaaGreatDoor
