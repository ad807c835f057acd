/- Texts of the proofs, merged. -/
import Derived.Test.YtekafhogiambaaaGreatDoorZc37
import Derived.Test.YtekafhogiambaaaGreatDoorZc1
namespace Go.Proofs.YtekafhogiambaaaGreatDoor.Tk
open Rd (By Dt pcsQ tellQ fit fitAll)
theorem goodL_plain {p : By} (h0 : p ≠ []) (h : ∀ c ∈ p,ends c = false ∧ c.toNat ≠ 92) : GoodL (p,false):=by
 refine ⟨WholeL.all h,?_⟩
 cases p with
 | nil=>exact absurd rfl h0
 | cons c r=>exact ⟨c,r,rfl,(h c (by simp)).1⟩
theorem dig_lex {c : UInt8} (h : Rd.isDig c = true) : ends c = false ∧ c.toNat ≠ 92:=by
 simp only [Rd.isDig,Bool.and_eq_true,decide_eq_true_eq] at h
 exact ⟨ends_not (by omega),by omega⟩
theorem goodL_dec (n : Nat) : GoodL (Rd.dec n,false):=goodL_plain (Rd.dec_ne n) fun _ hc=>dig_lex (Rd.dec_mem hc)
theorem hx_lex {k : Nat} (h : k < 16) : ends (Rd.hx k) = false ∧ (Rd.hx k).toNat ≠ 92:=by
 have hn:=Rd.hx_nat h
 split at hn
 · exact ⟨ends_not (by omega),by omega⟩
 · exact ⟨ends_not (by omega),by omega⟩
theorem hex_lex {n : Nat} {c : UInt8} (h : c ∈ Rd.hex n) : ends c = false ∧ c.toNat ≠ 92:=by
 induction n using Nat.strongRecOn with
 | ind n ih =>
  by_cases hn : n < 16
  · rw [Rd.hex_small hn,List.mem_singleton] at h
    rw [h]
    exact hx_lex hn
  · rw [Rd.hex_more hn,List.mem_append,List.mem_singleton] at h
    rcases h with h | h
    · exact ih (n / 16) (by omega) h
    · rw [h]
      exact hx_lex (Nat.mod_lt n (by decide))
theorem goodL_text {n : By} (h : Rd.nm n = true) : GoodL (Nm.text n,false):=by
 unfold Rd.nm at h
 unfold Nm.text
 cases hs : Nm.split n with
 | none=>rw [hs] at h;cases h
 | some ls =>
  cases ls with
  | nil=>exact goodL_plain (by simp) (by decide)
  | cons l r =>
   refine ⟨?_,?_⟩
   · show WholeL (Nm.textL (l :: r))
     exact WholeL.flat fun x _=>(WholeL.flat fun c _=>(esc1_lex c).1).app (WholeL.one (by decide) (by decide))
   · show ∃ c t,Nm.textL (l :: r) = c :: t ∧ ends c = false
     rw [Nm.textL_cons]
     cases l with
     | nil=>exact ⟨46,_,rfl,by decide⟩
     | cons a q =>
      obtain ⟨d,t,e,h1⟩:=(esc1_lex a).2
      refine ⟨d,t ++ Nm.esc false q ++ 46 :: Nm.textL r,?_,h1⟩
      rw [show Nm.esc false (a :: q) = Nm.esc1 false a ++ Nm.esc false q from by simp [Nm.esc],e]
      simp
theorem goodL_pcs {d : Dt} {ls : List By} {n p : Nat} (h : fit p d n = true) : ∀ x ∈ pcsQ d ls n p,GoodL x:=by
 intro x hx
 unfold pcsQ at hx
 unfold fit at h
 by_cases h1 : p = 1
 · rw [if_pos h1] at hx h
   rw [List.mem_singleton.1 hx]
   refine goodL_plain ?_ fun c hc=>?_
   · cases hr : d.raw with
     | nil=>rw [hr] at h;cases h
     | cons a r=>exact Rd.joinB_pos (Rd.dec_ne _)
   · rcases Rd.joinB_mem hc with rfl | ⟨p,hp,hc⟩
     · decide
     · obtain ⟨y,_,rfl⟩:=List.mem_map.1 hp
       exact dig_lex (Rd.dec_mem hc)
 rw [if_neg h1] at hx h
 by_cases h2 : p = 2
 · rw [if_pos h2] at hx
   rw [List.mem_singleton.1 hx]
   refine goodL_plain (Rd.joinB_pos (Rd.hex_ne _)) fun c hc=>?_
   rcases Rd.joinB_mem hc with rfl | ⟨p,hp,hc⟩
   · decide
   · obtain ⟨y,_,rfl⟩:=List.mem_map.1 hp
     exact hex_lex hc
 rw [if_neg h2] at hx h
 by_cases h3 : p = 3
 · rw [if_pos h3] at hx
   obtain ⟨l,_,rfl⟩:=List.mem_map.1 hx
   exact WholeQ.flat fun c _=>esc1_quo c
 rw [if_neg h3] at hx h
 by_cases h4 : p = 4
 · rw [if_pos h4] at hx
   rw [List.mem_cons,List.mem_cons] at hx
   rcases hx with rfl | rfl | hx
   · exact ⟨WholeL.back (by decide),_,_,rfl,by decide⟩
   · exact goodL_dec _
   · by_cases h0 : d.raw = []
     · rw [if_pos h0] at hx;cases hx
     · rw [if_neg h0] at hx
       rw [List.mem_singleton.1 hx]
       refine goodL_plain ?_ fun c hc=>?_
       · intro e
         cases hr : d.raw with
         | nil=>exact h0 hr
         | cons a r =>
          rw [hr,List.flatMap_cons,List.append_eq_nil_iff] at e
          have:=e.1
          unfold Rd.two at this
          rw [List.append_eq_nil_iff] at this
          exact Rd.hex_ne _ this.1
       · obtain ⟨y,_,hc⟩:=List.mem_flatMap.1 hc
         unfold Rd.two at hc
         rw [List.mem_append] at hc
         rcases hc with hc | hc
         · exact hex_lex hc
         · exact hex_lex hc
 rw [if_neg h4] at hx h
 by_cases h5 : p = 5 ∨ p = 6
 · rw [if_pos h5] at hx h
   rw [List.mem_singleton.1 hx]
   exact goodL_text h
 rw [if_neg h5] at hx h
 by_cases h7 : p = 7
 · rw [if_pos h7] at hx h
   rw [List.mem_singleton.1 hx]
   exact goodL_text h
 rw [if_neg h7] at hx
 by_cases h8 : p = 8 ∨ p = 9
 · rw [if_pos h8] at hx
   rw [List.mem_singleton.1 hx]
   exact goodL_dec _
 · rw [if_neg h8] at hx;cases hx
theorem goodL_tell {d : Dt} {ls : List By} : ∀ {ps : List Nat} {n : Nat},fitAll d ps n = true → ∀ x ∈ tellQ d ls ps n,GoodL x
 | [],_,_,x,hx=>by simp [tellQ] at hx
 | p :: r,n,h,x,hx=>by
  rw [fitAll,Bool.and_eq_true] at h
  rw [tellQ,List.mem_append] at hx
  rcases hx with hx | hx
  · exact goodL_pcs h.1 x hx
  · exact goodL_tell h.2 x hx
theorem goodL_type (t : Nat) : GoodL (Rd.tyText t,false):=by
 have key : ∀ x ∈ Rd.tyTab,GoodL (x.2,false):=by
  intro x hx
  simp only [Rd.tyTab,List.mem_cons,List.not_mem_nil,or_false] at hx
  rcases hx with rfl | rfl | rfl | rfl | rfl | rfl | rfl | rfl | rfl <;> exact goodL_plain (by simp) (by decide)
 unfold Rd.tyText
 cases h : Rd.tyTab.find? (fun x=>x.1 == t) with
 | some x=>exact key x (List.mem_of_find?_eq_some h)
 | none =>
  refine goodL_plain (by simp) fun c hc=>?_
  rw [List.mem_append] at hc
  rcases hc with hc | hc
  · simp only [List.mem_cons,List.not_mem_nil,or_false] at hc
    rcases hc with rfl | rfl | rfl | rfl <;> decide
  · exact dig_lex (Rd.dec_mem hc)
def recW (n : By) (ttl t : Nat) (d : Dt) (ls : List By) : List (By × Bool):=(Nm.text n,false) :: (Rd.dec ttl,false) :: ([73,78],false) :: (Rd.tyText t,false) :: tellQ d ls (Rd.parts t) 0
theorem goodL_rec {n : By} {ttl t : Nat} {d : Dt} {ls : List By} (hn : Rd.nm n = true) (hd : Rd.ok t d = true) : recW n ttl t d ls ≠ [] ∧ ∀ x ∈ recW n ttl t d ls,GoodL x:=by
 refine ⟨by simp [recW],fun x hx=>?_⟩
 rw [Rd.ok_parts,Bool.and_eq_true] at hd
 simp only [recW,List.mem_cons] at hx
 rcases hx with rfl | rfl | rfl | rfl | hx
 · exact goodL_text hn
 · exact goodL_dec _
 · exact goodL_plain (by simp) (by decide)
 · exact goodL_type t
 · exact goodL_tell hd.1 x hx
def orgW (n : By) : List (By × Bool) := [([36,79,82,73,71,73,78],false),(Nm.text n,false)]
theorem goodL_org {n : By} (hn : Rd.nm n = true) : orgW n ≠ [] ∧ ∀ x ∈ orgW n,GoodL x:=by
 refine ⟨by simp [orgW],fun x hx=>?_⟩
 simp only [orgW,List.mem_cons,List.not_mem_nil,or_false] at hx
 rcases hx with rfl | rfl
 · exact goodL_plain (by simp) (by decide)
 · exact goodL_text hn
end Go.Proofs.YtekafhogiambaaaGreatDoor.Tk
namespace Go.Proofs.YtekafhogiambaaaGreatDoor.Rd
theorem fold_type (n : Nat) : (Nm.fold ([84,89,80,69] ++ dec n)).take 4 = [116,121,112,101]:=by
 have e : Nm.fold ([84,89,80,69] ++ dec n) = Nm.fold [84,89,80,69] ++ Nm.fold (dec n):=by simp [Nm.fold]
 have e2 : Nm.fold [84,89,80,69] = [116,121,112,101]:=by decide
 rw [e,e2]
 rfl
theorem find_type (n : Nat) : tyTab.find? (fun x=>Nm.fold x.2 == Nm.fold ([84,89,80,69] ++ dec n)) = none:=by
 rw [List.find?_eq_none]
 intro x hx h
 have h1:=beq_iff_eq.1 h
 have h2:=congrArg (List.take 4) h1
 rw [fold_type] at h2
 simp only [tyTab,List.mem_cons,List.not_mem_nil,or_false] at hx
 rcases hx with rfl | rfl | rfl | rfl | rfl | rfl | rfl | rfl | rfl <;> exact absurd h2 (by decide)
theorem tyOf_text {t : Nat} (h : t ≤ 65535) : tyOf (tyText t) = some t:=by
 unfold tyText
 cases hf : tyTab.find? (fun x=>x.1 == t) with
 | some x =>
  have h1:=List.mem_of_find?_eq_some hf
  have h2:=List.find?_some hf
  have h3 : x.1 = t:=by simpa using h2
  subst h3
  simp only [tyTab,List.mem_cons,List.not_mem_nil,or_false] at h1
  rcases h1 with rfl | rfl | rfl | rfl | rfl | rfl | rfl | rfl | rfl <;> decide
 | none =>
  simp only
  unfold tyOf
  rw [find_type]
  simp only
  rw [if_pos (fold_type t)]
  exact num_dec h (by decide)
end Go.Proofs.YtekafhogiambaaaGreatDoor.Rd
