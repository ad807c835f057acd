/- Records as sets: key by key, and by going through the records in order. Nothing of the program. -/
import Derived.Test.YtnhoaceickojeaaRrPure
namespace Go.Proofs.Ytnhoaceickojeaa.Rr

instance : DecidableEq Ky := fun _ _ => decidable_of_iff _ cmpK_zero
instance : DecidableEq Rd.Dt := fun _ _ => decidable_of_iff _ cmpD_zero
section
variable {α : Type} {c : α → α → Int}
/-- in order. -/
def Up (c : α → α → Int) (l : List α) : Prop := l.Pairwise fun a b => c a b ≤ 0
def sort (c : α → α → Int) (l : List α) : List α := l.mergeSort fun a b => decide (c a b ≤ 0)
theorem sort_perm (l : List α) : (sort c l).Perm l := List.mergeSort_perm _ _
theorem sort_up (hc : Od c) (l : List α) : Up c (sort c l) := by
  have h := List.pairwise_mergeSort (le := fun a b => decide (c a b ≤ 0)) (fun a b d h1 h2 => by
    simp only [decide_eq_true_eq] at *
    exact hc.trans _ _ _ h1 h2) (fun a b => by
    simp only [Bool.or_eq_true, decide_eq_true_eq]
    have := hc.neg a b
    omega) l
  exact h.imp fun h => by simpa using h
theorem up_one (hc : Od c) (hz : ∀ {a b}, c a b = 0 ↔ a = b) {l m : List α} (hp : l.Perm m) (hl : Up c l) (hm : Up c m) : l = m :=
  List.Perm.eq_of_pairwise (le := fun a b => c a b ≤ 0) (fun a b _ _ h1 h2 => hz.1 (by have := hc.neg a b; omega)) hl hm hp
theorem sort_of (hc : Od c) (hz : ∀ {a b}, c a b = 0 ↔ a = b) {l m : List α} (hp : m.Perm l) (hm : Up c m) : sort c l = m :=
  up_one hc hz ((sort_perm l).trans hp.symm) (sort_up hc l) hm
theorem sort_perm_eq (hc : Od c) (hz : ∀ {a b}, c a b = 0 ↔ a = b) {l m : List α} (hp : l.Perm m) : sort c l = sort c m :=
  sort_of hc hz ((sort_perm m).trans hp.symm) (sort_up hc m)
theorem snoc_ind {P : List α → Prop} (h0 : P []) (h1 : ∀ l x, P l → P (l ++ [x])) (l : List α) : P l := by
  have : ∀ n (l : List α), l.length = n → P l := by
    intro n
    induction n with
    | zero => intro l h; rw [List.eq_nil_of_length_eq_zero h]; exact h0
    | succ n ih =>
      intro l h
      have hne : l ≠ [] := fun e => by rw [e] at h; simp at h
      rw [← List.dropLast_concat_getLast hne]
      exact h1 _ _ (ih _ (by rw [List.length_dropLast]; omega))
  exact this _ l rfl
theorem last_le {l : List α} {x y : α} (h : Up c (l ++ [x])) (hl : l.getLast? = some y) : c y x ≤ 0 := by
  have := (List.pairwise_append.1 h).2.2 y (List.mem_of_getLast? hl) x (by simp)
  exact this
theorem up_front {l : List α} {x : α} (h : Up c (l ++ [x])) : Up c l := (List.pairwise_append.1 h).1
theorem up_last (hc : Od c) {l : List α} {y : α} (h : Up c l) (hl : l.getLast? = some y) : ∀ a ∈ l, c a y ≤ 0 := by
  intro a ha
  have hne : l ≠ [] := fun e => by rw [e] at ha; cases ha
  have e := List.dropLast_concat_getLast hne
  have hy : l.getLast hne = y := by rw [List.getLast?_eq_some_getLast hne] at hl; exact Option.some.inj hl
  rw [← e, hy] at h ha
  rcases List.mem_append.1 ha with h1 | h1
  · exact (List.pairwise_append.1 h).2.2 a h1 y (by simp)
  · rw [List.mem_singleton.1 h1]; have := hc.neg y y; omega
/-- what comes next in order and is not the last one is none of those that were. -/
theorem next_new (hc : Od c) (hz : ∀ {a b}, c a b = 0 ↔ a = b) {l : List α} {x : α} (h : Up c (l ++ [x])) (hl : l.getLast? ≠ some x) : ∀ a ∈ l, c a x < 0 := by
  intro a ha
  have h1 := (List.pairwise_append.1 h).2.2 a ha x (by simp)
  by_cases h0 : c a x = 0
  · have e := hz.1 h0
    subst e
    have hne : l ≠ [] := fun e => by rw [e] at ha; cases ha
    have hy := List.getLast?_eq_some_getLast hne
    have h2 := up_last hc (up_front h) hy a ha
    have h3 := last_le h hy
    have := hc.neg a (l.getLast hne)
    exact absurd (hy.trans (by rw [hz.1 (show c (l.getLast hne) a = 0 by have := hc.neg a (l.getLast hne); omega)])) hl
  · omega
/-- strictly in order. -/
def Lt (c : α → α → Int) (l : List α) : Prop := l.Pairwise fun a b => c a b < 0
theorem Lt.up {l : List α} (h : Lt c l) : Up c l := h.imp fun h => by omega
theorem Lt.nodup (hc : Od c) {l : List α} (h : Lt c l) : l.Nodup := h.imp fun {a b} h e => by subst e; have := hc.neg a a; omega
/-- two that are strictly in order and have the same are one. -/
theorem lt_one (hc : Od c) (hz : ∀ {a b}, c a b = 0 ↔ a = b) {l m : List α} (hl : Lt c l) (hm : Lt c m) (h : ∀ a, a ∈ l ↔ a ∈ m) : l = m :=
  up_one hc hz ((List.perm_ext_iff_of_nodup (hl.nodup hc) (hm.nodup hc)).2 h) hl.up hm.up
/-- of those that stand one behind the other and are alike the first one. -/
def cp1 [DecidableEq α] (l : List α) (x : α) : List α := if l.getLast? = some x then l else l ++ [x]
def cpt [DecidableEq α] (l : List α) : List α := l.foldl cp1 []
variable [DecidableEq α]
theorem cpt_snoc (l : List α) (x : α) : cpt (l ++ [x]) = cp1 (cpt l) x := by unfold cpt; rw [List.foldl_append]; rfl
theorem cpt_last (l : List α) : (cpt l).getLast? = l.getLast? := by
  refine snoc_ind (P := fun l => (cpt l).getLast? = l.getLast?) rfl (fun l x ih => ?_) l
  rw [cpt_snoc]
  unfold cp1
  split
  · rename_i h; rw [h]; simp
  · simp
theorem cpt_mem (l : List α) (a : α) : a ∈ cpt l ↔ a ∈ l := by
  refine snoc_ind (P := fun l => a ∈ cpt l ↔ a ∈ l) Iff.rfl (fun l x ih => ?_) l
  rw [cpt_snoc]
  unfold cp1
  split
  · rename_i h
    rw [ih, List.mem_append, List.mem_singleton]
    rw [cpt_last] at h
    exact ⟨.inl, fun h' => h'.elim id fun e => by rw [e]; exact List.mem_of_getLast? h⟩
  · rw [List.mem_append, List.mem_append, ih]
theorem cpt_lt (hc : Od c) (hz : ∀ {a b}, c a b = 0 ↔ a = b) {l : List α} (h : Up c l) : Lt c (cpt l) := by
  revert h
  refine snoc_ind (P := fun l => Up c l → Lt c (cpt l)) (fun _ => List.Pairwise.nil) (fun l x ih h => ?_) l
  have hi := ih (up_front h)
  rw [cpt_snoc]
  unfold cp1
  split
  · exact hi
  · rename_i hne
    rw [cpt_last] at hne
    refine List.pairwise_append.2 ⟨hi, List.pairwise_singleton _ _, fun a ha b hb => ?_⟩
    rw [List.mem_singleton.1 hb]
    exact next_new hc hz h hne a ((cpt_mem l a).1 ha)
theorem cpt_of_lt (hc : Od c) {l : List α} (h : Lt c l) : cpt l = l := by
  revert h
  refine snoc_ind (P := fun l => Lt c l → cpt l = l) (fun _ => rfl) (fun l x ih h => ?_) l
  have hf : Lt c l := (List.pairwise_append.1 h).1
  rw [cpt_snoc, ih hf]
  unfold cp1
  rw [if_neg]
  intro e
  have := (List.pairwise_append.1 h).2.2 x (List.mem_of_getLast? e) x (by simp)
  have := hc.neg x x
  omega
end
/-- the least number; 0 of none. -/
def least : List Nat → Nat
  | [] => 0
  | x :: r => r.foldl min x
theorem least_snoc (l : List Nat) (x : Nat) : least (l ++ [x]) = if l = [] then x else min (least l) x := by
  cases l with
  | nil => rfl
  | cons a r => simp [least, List.foldl_append]
theorem least_is (l : List Nat) : l ≠ [] → least l ∈ l ∧ ∀ x ∈ l, least l ≤ x := by
  refine snoc_ind (P := fun l => l ≠ [] → least l ∈ l ∧ ∀ x ∈ l, least l ≤ x) (fun h => absurd rfl h) (fun l x ih _ => ?_) l
  rw [least_snoc]
  split
  · rename_i h; subst h; exact ⟨by simp, by simp⟩
  · rename_i h
    obtain ⟨h1, h2⟩ := ih h
    refine ⟨?_, fun y hy => ?_⟩
    · rw [List.mem_append, List.mem_singleton]
      by_cases hx : least l ≤ x
      · left; rw [Nat.min_eq_left hx]; exact h1
      · right; rw [Nat.min_eq_right (by omega)]
    · rcases List.mem_append.1 hy with hy | hy
      · exact Nat.le_trans (Nat.min_le_left _ _) (h2 y hy)
      · rw [List.mem_singleton.1 hy]; exact Nat.min_le_right _ _
theorem least_perm {l m : List Nat} (h : l.Perm m) : least l = least m := by
  by_cases h0 : l = []
  · subst h0; rw [h.nil_eq]
  · have h1 : m ≠ [] := fun e => h0 (by subst e; exact h.eq_nil)
    obtain ⟨a1, a2⟩ := least_is l h0
    obtain ⟨b1, b2⟩ := least_is m h1
    exact Nat.le_antisymm (a2 _ (h.mem_iff.2 b1)) (b2 _ (h.mem_iff.1 a1))
/-- a set. -/
structure St where
  ky : Ky
  ttl : Nat
  ds : List Rd.Dt
def ofKey (F : List Rc) (k : Ky) : List Rc := F.filter fun r => decide (r.ky = k)
def grp (k : Ky) (own : List Rc) : St := ⟨k, least (own.map Rc.ttl), cpt (sort cmpD (own.map Rc.d))⟩
def keys (F : List Rc) : List Ky := cpt (sort cmpK (F.map Rc.ky))
/-- records as sets. -/
def sets (F : List Rc) : List St := (keys F).map fun k => grp k (ofKey F k)
theorem keys_lt (F : List Rc) : Lt cmpK (keys F) := cpt_lt od_cmpK cmpK_zero (sort_up od_cmpK _)
theorem keys_mem {F : List Rc} {k : Ky} : k ∈ keys F ↔ ∃ r ∈ F, r.ky = k := by
  unfold keys
  rw [cpt_mem, (sort_perm _).mem_iff, List.mem_map]
theorem grp_perm {k : Ky} {l m : List Rc} (h : l.Perm m) : grp k l = grp k m := by
  unfold grp
  rw [least_perm (h.map _), sort_perm_eq od_cmpD cmpD_zero (h.map _)]
theorem sets_perm {F G : List Rc} (h : F.Perm G) : sets F = sets G := by
  unfold sets
  have e : keys F = keys G := by unfold keys; rw [sort_perm_eq od_cmpK cmpK_zero (h.map _)]
  rw [e]
  exact List.map_congr_left fun k _ => grp_perm (h.filter _)
/-- however the sets were gathered, in the order of keys they are these. -/
theorem sets_of {F : List Rc} {L : List St} (hl : ∀ x ∈ L, x = grp x.ky (ofKey F x.ky)) (hk : ∀ k, k ∈ L.map St.ky ↔ ∃ r ∈ F, r.ky = k) (hn : (L.map St.ky).Nodup) (hu : Up cmpK (L.map St.ky)) : L = sets F := by
  have hkeys : L.map St.ky = keys F := by
    refine up_one od_cmpK cmpK_zero ((List.perm_ext_iff_of_nodup hn ((keys_lt F).nodup od_cmpK)).2 fun k => ?_) hu (keys_lt F).up
    rw [hk, keys_mem]
  unfold sets
  rw [← hkeys, List.map_map]
  exact (List.map_id L).symm.trans (List.map_congr_left hl)
theorem up_keys {s : List Rc} (h : Up cmpR s) : Up cmpK (s.map Rc.ky) := List.pairwise_map.2 (h.imp fun {a b} h => by
  unfold cmpR lx at h
  split at h <;> omega)
theorem up_data {s : List Rc} (h : Up cmpR s) (k : Ky) : Up cmpD ((ofKey s k).map Rc.d) := by
  refine List.pairwise_map.2 ?_
  have h1 := h.filter fun r => decide (r.ky = k)
  refine List.Pairwise.imp_of_mem ?_ h1
  intro a b ha hb hab
  have ea : a.ky = k := by simpa using (List.mem_filter.1 ha).2
  have eb : b.ky = k := by simpa using (List.mem_filter.1 hb).2
  have h0 : cmpK a.ky b.ky = 0 := cmpK_zero.2 (by rw [ea, eb])
  unfold cmpR at hab
  rw [h0] at hab
  unfold lx at hab
  rw [if_pos rfl] at hab
  split at hab <;> omega
/-- of records in order. -/
def grpU (k : Ky) (own : List Rc) : St := ⟨k, least (own.map Rc.ttl), cpt (own.map Rc.d)⟩
theorem sets_up {s : List Rc} (h : Up cmpR s) : sets s = (cpt (s.map Rc.ky)).map fun k => grpU k (ofKey s k) := by
  unfold sets keys
  rw [sort_of od_cmpK cmpK_zero (List.Perm.refl _) (up_keys h)]
  refine List.map_congr_left fun k _ => ?_
  unfold grp grpU
  rw [sort_of od_cmpD cmpD_zero (List.Perm.refl _) (up_data h k)]
/-- a record more, of records that come in order. -/
def put1 (out : List St) (r : Rc) : List St := match out.getLast? with
  | some x => if x.ky = r.ky then out.dropLast ++ [⟨x.ky, min x.ttl r.ttl, cp1 x.ds r.d⟩] else out ++ [⟨r.ky, r.ttl, [r.d]⟩]
  | none => [⟨r.ky, r.ttl, [r.d]⟩]
theorem ofKey_snoc (s : List Rc) (r : Rc) (k : Ky) : ofKey (s ++ [r]) k = if r.ky = k then ofKey s k ++ [r] else ofKey s k := by
  unfold ofKey
  rw [List.filter_append]
  split
  · rename_i h; simp [h]
  · rename_i h; simp [h]
theorem put_all {s : List Rc} (h : Up cmpR s) : s.foldl put1 [] = sets s := by
  rw [sets_up h]
  revert h
  refine snoc_ind (P := fun s => Up cmpR s → s.foldl put1 [] = (cpt (s.map Rc.ky)).map fun k => grpU k (ofKey s k)) (fun _ => rfl) (fun s r ih h => ?_) s
  have hf := up_front h
  rw [List.foldl_append, List.foldl_cons, List.foldl_nil, ih hf, List.map_append, List.map_cons, List.map_nil, cpt_snoc]
  have hk := up_keys h
  rw [List.map_append, List.map_cons, List.map_nil] at hk
  have hlt := cpt_lt od_cmpK cmpK_zero (up_keys hf)
  unfold cp1
  by_cases hl : (cpt (s.map Rc.ky)).getLast? = some r.ky
  · rw [if_pos hl]
    have hne : cpt (s.map Rc.ky) ≠ [] := fun e => by rw [e] at hl; cases hl
    have e := List.dropLast_concat_getLast hne
    rw [List.getLast?_eq_some_getLast hne] at hl
    rw [Option.some.inj hl] at e
    obtain ⟨ks, hks⟩ : ∃ ks, (cpt (s.map Rc.ky)).dropLast = ks := ⟨_, rfl⟩
    rw [hks] at e
    rw [← e] at hlt ⊢
    have hnot : ∀ k ∈ ks, r.ky ≠ k := fun k hk' e' => by
      have := (List.pairwise_append.1 hlt).2.2 k hk' r.ky (by simp)
      rw [e'] at this
      have := od_cmpK.neg k k
      omega
    have hin : ofKey s r.ky ≠ [] := by
      have hm : r.ky ∈ cpt (s.map Rc.ky) := by rw [← e]; simp
      rw [cpt_mem, List.mem_map] at hm
      obtain ⟨q, hq, hqk⟩ := hm
      exact fun e' => by
        have : q ∈ ofKey s r.ky := List.mem_filter.2 ⟨hq, by simp [hqk]⟩
        rw [e'] at this; cases this
    rw [List.map_append, List.map_append, List.map_cons, List.map_nil, List.map_cons, List.map_nil, put1, List.getLast?_append, List.getLast?_singleton, Option.some_or]
    simp only
    rw [if_pos (show (grpU r.ky (ofKey s r.ky)).ky = r.ky from rfl), List.dropLast_concat]
    congr 1
    · exact List.map_congr_left fun k hk' => by rw [ofKey_snoc, if_neg (hnot k hk')]
    · rw [ofKey_snoc, if_pos rfl]
      unfold grpU
      simp only [List.map_append, List.map_cons, List.map_nil, cpt_snoc, least_snoc]
      rw [if_neg (by simpa using hin)]
  · rw [if_neg hl]
    rw [cpt_last] at hl
    have hnew := next_new od_cmpK cmpK_zero hk hl
    have hnot : ∀ q ∈ s, r.ky ≠ q.ky := fun q hq e' => by
      have := hnew q.ky (List.mem_map_of_mem hq)
      rw [e'] at this
      have := od_cmpK.neg q.ky q.ky
      omega
    have hemp : ofKey s r.ky = [] := by
      unfold ofKey
      rw [List.filter_eq_nil_iff]
      intro q hq
      simpa using fun e => hnot q hq e.symm
    rw [List.map_append, List.map_cons, List.map_nil, ofKey_snoc, if_pos rfl, hemp]
    have hold : (cpt (s.map Rc.ky)).map (fun k => grpU k (ofKey (s ++ [r]) k)) = (cpt (s.map Rc.ky)).map (fun k => grpU k (ofKey s k)) :=
      List.map_congr_left fun k hk' => by
        rw [cpt_mem, List.mem_map] at hk'
        obtain ⟨q, hq, rfl⟩ := hk'
        rw [ofKey_snoc, if_neg (hnot q hq)]
    rw [hold]
    have hone : grpU r.ky ([] ++ [r]) = ⟨r.ky, r.ttl, [r.d]⟩ := rfl
    rw [hone]
    unfold put1
    cases hx : ((cpt (s.map Rc.ky)).map fun k => grpU k (ofKey s k)).getLast? with
    | none =>
      rw [List.getLast?_eq_none_iff] at hx
      rw [hx]; rfl
    | some x =>
      simp only
      rw [List.getLast?_map, Option.map_eq_some_iff] at hx
      obtain ⟨k, hk1, rfl⟩ := hx
      rw [cpt_last] at hk1
      rw [if_neg (fun e => hl (by rw [hk1]; exact congrArg some e))]
end Go.Proofs.Ytnhoaceickojeaa.Rr
