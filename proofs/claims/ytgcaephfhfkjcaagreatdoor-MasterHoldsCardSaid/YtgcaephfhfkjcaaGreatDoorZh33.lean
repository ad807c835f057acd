/- Texts of the proofs, merged. -/
import Derived.Test.YtgcaephfhfkjcaaGreatDoorZh4
import Derived.WalkMore
import Derived.ScopeJumps
import Derived.Test.YtgcaephfhfkjcaaGreatDoorZh32
import Derived.Test.YtgcaephfhfkjcaaGreatDoorZh1
import Derived.StillTailTactics
namespace Go.Proofs.YtgcaephfhfkjcaaGreatDoor
open Go.RowKit

/-- As Q; by a goto: J. -/
def jumps (J : Nat → Act → World → Prop) (Q : Exit → Act → World → Prop) : Exit → Act → World → Prop
  | .goto l, a, w => J l a w
  | e, a, w => Q e a w
section
variable {P : Program} {a : Act} {w : World} {Q : Exit → Act → World → Prop}
@[go_sem] theorem jumps_goto (J : Nat → Act → World → Prop) (l : Nat) : jumps J Q (.goto l) a w = J l a w := rfl
@[go_sem] theorem jumps_normal (J : Nat → Act → World → Prop) : jumps J Q .normal a w = Q .normal a w := rfl
@[go_sem] theorem jumps_exit (J : Nat → Act → World → Prop) (id : Nat) : jumps J Q (.exit id) a w = Q (.exit id) a w := rfl
@[go_sem] theorem jumps_ret (J : Nat → Act → World → Prop) : jumps J Q .ret a w = Q .ret a w := rfl
@[go_sem] theorem jumps_panic (J : Nat → Act → World → Prop) (ch : List PanicEntry) : jumps J Q (.panic ch) a w = Q (.panic ch) a w := rfl
/-- what holds at every jump, and a number that falls. -/
theorem wp_scope_many {c : Code} (J : Nat → Nat → Act → World → Prop)
    (first : c.wp P (jumps (fun l a w => ∃ n, J n l a w) Q) a w)
    (pass : ∀ n l a w, J n l a w → ∃ rest, findLabel c l = some rest ∧ rest.wp P (jumps (fun l' a' w' => ∃ n', n' < n ∧ J n' l' a' w') Q) a w) : (Code.scope c).wp P Q a w := by
  intro b k cs
  have key : ∀ n l a w, J n l a w → ∀ K, gotoIn l (.inScope c :: k) = some K → ∃ e a' w', Q e a' w' ∧ Arrives P (lone (b.at a K) cs w) b k cs e a' w' := by
    intro n
    induction n using Nat.strongRecOn with
    | _ n ih =>
      intro l a w hJ K hK
      obtain ⟨rest, hf, hp⟩ := pass n l a w hJ
      have hg : gotoIn l (.inScope c :: k) = some (.code rest :: .inScope c :: k) := by simp [gotoIn, hf]
      rw [hg] at hK
      injection hK with hK
      subst hK
      obtain ⟨e, a₁, w₁, hq, harr⟩ := hp b (.inScope c :: k) cs
      cases e with
      | normal => exact ⟨.normal, a₁, w₁, hq, Steps.trans harr (.one step_inScope)⟩
      | exit id => exact ⟨.exit id, a₁, w₁, hq, fun k' hk => harr k' (by simp [exitTo, hk])⟩
      | goto l' =>
        obtain ⟨n', hlt, hJ'⟩ := hq
        obtain ⟨rest', hf', _⟩ := pass n' l' a₁ w₁ hJ'
        have hg' : gotoIn l' (.inScope c :: k) = some (.code rest' :: .inScope c :: k) := by simp [gotoIn, hf']
        obtain ⟨e₂, a₂, w₂, hq₂, harr₂⟩ := ih n' hlt l' a₁ w₁ hJ' _ hg'
        exact ⟨e₂, a₂, w₂, hq₂, .of_steps (harr _ hg') harr₂⟩
      | ret => exact ⟨_, a₁, w₁, hq, harr⟩
      | panic ch => exact ⟨_, a₁, w₁, hq, harr⟩
      | outgrown => exact ⟨_, a₁, w₁, hq, harr⟩
  obtain ⟨e, a₁, w₁, hq, harr⟩ := first b (.inScope c :: k) cs
  cases e with
  | normal => exact ⟨.normal, a₁, w₁, hq, .head step_scope (Steps.trans harr (.one step_inScope))⟩
  | exit id => exact ⟨.exit id, a₁, w₁, hq, fun k' hk => .head step_scope (harr k' (by simp [exitTo, hk]))⟩
  | goto l' =>
    obtain ⟨n, hJ'⟩ := hq
    obtain ⟨rest', hf', _⟩ := pass n l' a₁ w₁ hJ'
    have hg' : gotoIn l' (.inScope c :: k) = some (.code rest' :: .inScope c :: k) := by simp [gotoIn, hf']
    obtain ⟨e₂, a₂, w₂, hq₂, harr₂⟩ := key n l' a₁ w₁ hJ' _ hg'
    exact ⟨e₂, a₂, w₂, hq₂, .of_steps (.head step_scope (harr _ hg')) harr₂⟩
  | ret => exact ⟨_, a₁, w₁, hq, .of_steps (.one step_scope) harr⟩
  | panic ch => exact ⟨_, a₁, w₁, hq, .of_steps (.one step_scope) harr⟩
  | outgrown => exact ⟨_, a₁, w₁, hq, .of_steps (.one step_scope) harr⟩
end
theorem cons_of {n : Nat} {l : List Value} (h : l.length = n + 1) : ∃ u r, l = u :: r ∧ r.length = n := by
  rcases l with _ | ⟨u, r⟩
  · simp at h
  · exact ⟨u, r, rfl, by simpa using h⟩
set_option maxRecDepth 100000 in
set_option maxHeartbeats 2000000 in
theorem fr125 {motive : Array Value → Prop} (H : ∀ u0 u1 u2 u3 u4 u5 u6 u7 u8 u9 u10 u11 u12 u13 u14 u15 u16 u17 u18 u19 u20 u21 u22 u23 u24 u25 u26 u27 u28 u29 u30 u31 u32 u33 u34 u35 u36 u37 u38 u39 u40 u41 u42 u43 u44 u45 u46 u47 u48 u49 u50 u51 u52 u53 u54 u55 u56 u57 u58 u59 u60 u61 u62 u63 u64 u65 u66 u67 u68 u69 u70 u71 u72 u73 u74 u75 u76 u77 u78 u79 u80 u81 u82 u83 u84 u85 u86 u87 u88 u89 u90 u91 u92 u93 u94 u95 u96 u97 u98 u99 u100 u101 u102 u103 u104 u105 u106 u107 u108 u109 u110 u111 u112 u113 u114 u115 u116 u117 u118 u119 u120 u121 u122 u123 u124 : Value, motive #[u0, u1, u2, u3, u4, u5, u6, u7, u8, u9, u10, u11, u12, u13, u14, u15, u16, u17, u18, u19, u20, u21, u22, u23, u24, u25, u26, u27, u28, u29, u30, u31, u32, u33, u34, u35, u36, u37, u38, u39, u40, u41, u42, u43, u44, u45, u46, u47, u48, u49, u50, u51, u52, u53, u54, u55, u56, u57, u58, u59, u60, u61, u62, u63, u64, u65, u66, u67, u68, u69, u70, u71, u72, u73, u74, u75, u76, u77, u78, u79, u80, u81, u82, u83, u84, u85, u86, u87, u88, u89, u90, u91, u92, u93, u94, u95, u96, u97, u98, u99, u100, u101, u102, u103, u104, u105, u106, u107, u108, u109, u110, u111, u112, u113, u114, u115, u116, u117, u118, u119, u120, u121, u122, u123, u124]) (t : Array Value) (h0 : t.size = 125) : motive t := by
  obtain ⟨l⟩ := t
  have h : l.length = 125 := h0
  clear h0
  obtain ⟨u0, l0, rfl, h0⟩ := cons_of h
  obtain ⟨u1, l1, rfl, h1⟩ := cons_of h0
  obtain ⟨u2, l2, rfl, h2⟩ := cons_of h1
  obtain ⟨u3, l3, rfl, h3⟩ := cons_of h2
  obtain ⟨u4, l4, rfl, h4⟩ := cons_of h3
  obtain ⟨u5, l5, rfl, h5⟩ := cons_of h4
  obtain ⟨u6, l6, rfl, h6⟩ := cons_of h5
  obtain ⟨u7, l7, rfl, h7⟩ := cons_of h6
  obtain ⟨u8, l8, rfl, h8⟩ := cons_of h7
  obtain ⟨u9, l9, rfl, h9⟩ := cons_of h8
  obtain ⟨u10, l10, rfl, h10⟩ := cons_of h9
  obtain ⟨u11, l11, rfl, h11⟩ := cons_of h10
  obtain ⟨u12, l12, rfl, h12⟩ := cons_of h11
  obtain ⟨u13, l13, rfl, h13⟩ := cons_of h12
  obtain ⟨u14, l14, rfl, h14⟩ := cons_of h13
  obtain ⟨u15, l15, rfl, h15⟩ := cons_of h14
  obtain ⟨u16, l16, rfl, h16⟩ := cons_of h15
  obtain ⟨u17, l17, rfl, h17⟩ := cons_of h16
  obtain ⟨u18, l18, rfl, h18⟩ := cons_of h17
  obtain ⟨u19, l19, rfl, h19⟩ := cons_of h18
  obtain ⟨u20, l20, rfl, h20⟩ := cons_of h19
  obtain ⟨u21, l21, rfl, h21⟩ := cons_of h20
  obtain ⟨u22, l22, rfl, h22⟩ := cons_of h21
  obtain ⟨u23, l23, rfl, h23⟩ := cons_of h22
  obtain ⟨u24, l24, rfl, h24⟩ := cons_of h23
  obtain ⟨u25, l25, rfl, h25⟩ := cons_of h24
  obtain ⟨u26, l26, rfl, h26⟩ := cons_of h25
  obtain ⟨u27, l27, rfl, h27⟩ := cons_of h26
  obtain ⟨u28, l28, rfl, h28⟩ := cons_of h27
  obtain ⟨u29, l29, rfl, h29⟩ := cons_of h28
  obtain ⟨u30, l30, rfl, h30⟩ := cons_of h29
  obtain ⟨u31, l31, rfl, h31⟩ := cons_of h30
  obtain ⟨u32, l32, rfl, h32⟩ := cons_of h31
  obtain ⟨u33, l33, rfl, h33⟩ := cons_of h32
  obtain ⟨u34, l34, rfl, h34⟩ := cons_of h33
  obtain ⟨u35, l35, rfl, h35⟩ := cons_of h34
  obtain ⟨u36, l36, rfl, h36⟩ := cons_of h35
  obtain ⟨u37, l37, rfl, h37⟩ := cons_of h36
  obtain ⟨u38, l38, rfl, h38⟩ := cons_of h37
  obtain ⟨u39, l39, rfl, h39⟩ := cons_of h38
  obtain ⟨u40, l40, rfl, h40⟩ := cons_of h39
  obtain ⟨u41, l41, rfl, h41⟩ := cons_of h40
  obtain ⟨u42, l42, rfl, h42⟩ := cons_of h41
  obtain ⟨u43, l43, rfl, h43⟩ := cons_of h42
  obtain ⟨u44, l44, rfl, h44⟩ := cons_of h43
  obtain ⟨u45, l45, rfl, h45⟩ := cons_of h44
  obtain ⟨u46, l46, rfl, h46⟩ := cons_of h45
  obtain ⟨u47, l47, rfl, h47⟩ := cons_of h46
  obtain ⟨u48, l48, rfl, h48⟩ := cons_of h47
  obtain ⟨u49, l49, rfl, h49⟩ := cons_of h48
  obtain ⟨u50, l50, rfl, h50⟩ := cons_of h49
  obtain ⟨u51, l51, rfl, h51⟩ := cons_of h50
  obtain ⟨u52, l52, rfl, h52⟩ := cons_of h51
  obtain ⟨u53, l53, rfl, h53⟩ := cons_of h52
  obtain ⟨u54, l54, rfl, h54⟩ := cons_of h53
  obtain ⟨u55, l55, rfl, h55⟩ := cons_of h54
  obtain ⟨u56, l56, rfl, h56⟩ := cons_of h55
  obtain ⟨u57, l57, rfl, h57⟩ := cons_of h56
  obtain ⟨u58, l58, rfl, h58⟩ := cons_of h57
  obtain ⟨u59, l59, rfl, h59⟩ := cons_of h58
  obtain ⟨u60, l60, rfl, h60⟩ := cons_of h59
  obtain ⟨u61, l61, rfl, h61⟩ := cons_of h60
  obtain ⟨u62, l62, rfl, h62⟩ := cons_of h61
  obtain ⟨u63, l63, rfl, h63⟩ := cons_of h62
  obtain ⟨u64, l64, rfl, h64⟩ := cons_of h63
  obtain ⟨u65, l65, rfl, h65⟩ := cons_of h64
  obtain ⟨u66, l66, rfl, h66⟩ := cons_of h65
  obtain ⟨u67, l67, rfl, h67⟩ := cons_of h66
  obtain ⟨u68, l68, rfl, h68⟩ := cons_of h67
  obtain ⟨u69, l69, rfl, h69⟩ := cons_of h68
  obtain ⟨u70, l70, rfl, h70⟩ := cons_of h69
  obtain ⟨u71, l71, rfl, h71⟩ := cons_of h70
  obtain ⟨u72, l72, rfl, h72⟩ := cons_of h71
  obtain ⟨u73, l73, rfl, h73⟩ := cons_of h72
  obtain ⟨u74, l74, rfl, h74⟩ := cons_of h73
  obtain ⟨u75, l75, rfl, h75⟩ := cons_of h74
  obtain ⟨u76, l76, rfl, h76⟩ := cons_of h75
  obtain ⟨u77, l77, rfl, h77⟩ := cons_of h76
  obtain ⟨u78, l78, rfl, h78⟩ := cons_of h77
  obtain ⟨u79, l79, rfl, h79⟩ := cons_of h78
  obtain ⟨u80, l80, rfl, h80⟩ := cons_of h79
  obtain ⟨u81, l81, rfl, h81⟩ := cons_of h80
  obtain ⟨u82, l82, rfl, h82⟩ := cons_of h81
  obtain ⟨u83, l83, rfl, h83⟩ := cons_of h82
  obtain ⟨u84, l84, rfl, h84⟩ := cons_of h83
  obtain ⟨u85, l85, rfl, h85⟩ := cons_of h84
  obtain ⟨u86, l86, rfl, h86⟩ := cons_of h85
  obtain ⟨u87, l87, rfl, h87⟩ := cons_of h86
  obtain ⟨u88, l88, rfl, h88⟩ := cons_of h87
  obtain ⟨u89, l89, rfl, h89⟩ := cons_of h88
  obtain ⟨u90, l90, rfl, h90⟩ := cons_of h89
  obtain ⟨u91, l91, rfl, h91⟩ := cons_of h90
  obtain ⟨u92, l92, rfl, h92⟩ := cons_of h91
  obtain ⟨u93, l93, rfl, h93⟩ := cons_of h92
  obtain ⟨u94, l94, rfl, h94⟩ := cons_of h93
  obtain ⟨u95, l95, rfl, h95⟩ := cons_of h94
  obtain ⟨u96, l96, rfl, h96⟩ := cons_of h95
  obtain ⟨u97, l97, rfl, h97⟩ := cons_of h96
  obtain ⟨u98, l98, rfl, h98⟩ := cons_of h97
  obtain ⟨u99, l99, rfl, h99⟩ := cons_of h98
  obtain ⟨u100, l100, rfl, h100⟩ := cons_of h99
  obtain ⟨u101, l101, rfl, h101⟩ := cons_of h100
  obtain ⟨u102, l102, rfl, h102⟩ := cons_of h101
  obtain ⟨u103, l103, rfl, h103⟩ := cons_of h102
  obtain ⟨u104, l104, rfl, h104⟩ := cons_of h103
  obtain ⟨u105, l105, rfl, h105⟩ := cons_of h104
  obtain ⟨u106, l106, rfl, h106⟩ := cons_of h105
  obtain ⟨u107, l107, rfl, h107⟩ := cons_of h106
  obtain ⟨u108, l108, rfl, h108⟩ := cons_of h107
  obtain ⟨u109, l109, rfl, h109⟩ := cons_of h108
  obtain ⟨u110, l110, rfl, h110⟩ := cons_of h109
  obtain ⟨u111, l111, rfl, h111⟩ := cons_of h110
  obtain ⟨u112, l112, rfl, h112⟩ := cons_of h111
  obtain ⟨u113, l113, rfl, h113⟩ := cons_of h112
  obtain ⟨u114, l114, rfl, h114⟩ := cons_of h113
  obtain ⟨u115, l115, rfl, h115⟩ := cons_of h114
  obtain ⟨u116, l116, rfl, h116⟩ := cons_of h115
  obtain ⟨u117, l117, rfl, h117⟩ := cons_of h116
  obtain ⟨u118, l118, rfl, h118⟩ := cons_of h117
  obtain ⟨u119, l119, rfl, h119⟩ := cons_of h118
  obtain ⟨u120, l120, rfl, h120⟩ := cons_of h119
  obtain ⟨u121, l121, rfl, h121⟩ := cons_of h120
  obtain ⟨u122, l122, rfl, h122⟩ := cons_of h121
  obtain ⟨u123, l123, rfl, h123⟩ := cons_of h122
  obtain ⟨u124, l124, rfl, h124⟩ := cons_of h123
  obtain rfl : l124 = [] := List.eq_nil_of_length_eq_zero h124
  exact H u0 u1 u2 u3 u4 u5 u6 u7 u8 u9 u10 u11 u12 u13 u14 u15 u16 u17 u18 u19 u20 u21 u22 u23 u24 u25 u26 u27 u28 u29 u30 u31 u32 u33 u34 u35 u36 u37 u38 u39 u40 u41 u42 u43 u44 u45 u46 u47 u48 u49 u50 u51 u52 u53 u54 u55 u56 u57 u58 u59 u60 u61 u62 u63 u64 u65 u66 u67 u68 u69 u70 u71 u72 u73 u74 u75 u76 u77 u78 u79 u80 u81 u82 u83 u84 u85 u86 u87 u88 u89 u90 u91 u92 u93 u94 u95 u96 u97 u98 u99 u100 u101 u102 u103 u104 u105 u106 u107 u108 u109 u110 u111 u112 u113 u114 u115 u116 u117 u118 u119 u120 u121 u122 u123 u124
end Go.Proofs.YtgcaephfhfkjcaaGreatDoor
namespace Go.Proofs.YtgcaephfhfkjcaaGreatDoor
open Go.RowKit

/-- the frame of read: the lexer, the result's cell, no error, where the word began. -/
def Fr (a : Act) (g rc : Nat) (st : Value) : Prop :=
  a.defers = [] ∧ a.tmps.size = 125 ∧ a.tmps[0]? = some (.pointer (some ⟨g, 0, none⟩)) ∧ a.tmps[2]? = some (.pointer (some ⟨rc, 0, none⟩)) ∧ a.tmps[3]? = some (.int .i64 0) ∧ a.tmps[4]? = some st
set_option maxRecDepth 100000 in
set_option maxHeartbeats 2000000 in
theorem Fr.elim {g rc : Nat} {st : Value} {motive : Act → Prop} (H : ∀ u1 u5 u6 u7 u8 u9 u10 u11 u12 u13 u14 u15 u16 u17 u18 u19 u20 u21 u22 u23 u24 u25 u26 u27 u28 u29 u30 u31 u32 u33 u34 u35 u36 u37 u38 u39 u40 u41 u42 u43 u44 u45 u46 u47 u48 u49 u50 u51 u52 u53 u54 u55 u56 u57 u58 u59 u60 u61 u62 u63 u64 u65 u66 u67 u68 u69 u70 u71 u72 u73 u74 u75 u76 u77 u78 u79 u80 u81 u82 u83 u84 u85 u86 u87 u88 u89 u90 u91 u92 u93 u94 u95 u96 u97 u98 u99 u100 u101 u102 u103 u104 u105 u106 u107 u108 u109 u110 u111 u112 u113 u114 u115 u116 u117 u118 u119 u120 u121 u122 u123 u124 : Value, motive { tmps := #[(.pointer (some ⟨g, 0, none⟩)), u1, (.pointer (some ⟨rc, 0, none⟩)), (.int .i64 0), st, u5, u6, u7, u8, u9, u10, u11, u12, u13, u14, u15, u16, u17, u18, u19, u20, u21, u22, u23, u24, u25, u26, u27, u28, u29, u30, u31, u32, u33, u34, u35, u36, u37, u38, u39, u40, u41, u42, u43, u44, u45, u46, u47, u48, u49, u50, u51, u52, u53, u54, u55, u56, u57, u58, u59, u60, u61, u62, u63, u64, u65, u66, u67, u68, u69, u70, u71, u72, u73, u74, u75, u76, u77, u78, u79, u80, u81, u82, u83, u84, u85, u86, u87, u88, u89, u90, u91, u92, u93, u94, u95, u96, u97, u98, u99, u100, u101, u102, u103, u104, u105, u106, u107, u108, u109, u110, u111, u112, u113, u114, u115, u116, u117, u118, u119, u120, u121, u122, u123, u124], defers := [] }) {a : Act} (h : Fr a g rc st) : motive a := by
  obtain ⟨t, d⟩ := a
  obtain ⟨rfl, h1, h2, h3, h4, h5⟩ := h
  revert h2 h3 h4 h5
  refine fr125 (motive := fun t => t[0]? = some (.pointer (some ⟨g, 0, none⟩)) → t[2]? = some (.pointer (some ⟨rc, 0, none⟩)) → t[3]? = some (.int .i64 0) → t[4]? = some st → motive { tmps := t, defers := [] }) ?_ t h1
  intro u0 u1 u2 u3 u4 u5 u6 u7 u8 u9 u10 u11 u12 u13 u14 u15 u16 u17 u18 u19 u20 u21 u22 u23 u24 u25 u26 u27 u28 u29 u30 u31 u32 u33 u34 u35 u36 u37 u38 u39 u40 u41 u42 u43 u44 u45 u46 u47 u48 u49 u50 u51 u52 u53 u54 u55 u56 u57 u58 u59 u60 u61 u62 u63 u64 u65 u66 u67 u68 u69 u70 u71 u72 u73 u74 u75 u76 u77 u78 u79 u80 u81 u82 u83 u84 u85 u86 u87 u88 u89 u90 u91 u92 u93 u94 u95 u96 u97 u98 u99 u100 u101 u102 u103 u104 u105 u106 u107 u108 u109 u110 u111 u112 u113 u114 u115 u116 u117 u118 u119 u120 u121 u122 u123 u124 h2 h3 h4 h5
  have e0 : u0 = .pointer (some ⟨g, 0, none⟩) := Option.some.inj h2
  have e2 : u2 = .pointer (some ⟨rc, 0, none⟩) := Option.some.inj h3
  have e3 : u3 = .int .i64 0 := Option.some.inj h4
  have e4 : u4 = st := Option.some.inj h5
  rw [e0, e2, e3, e4]
  exact H u1 u5 u6 u7 u8 u9 u10 u11 u12 u13 u14 u15 u16 u17 u18 u19 u20 u21 u22 u23 u24 u25 u26 u27 u28 u29 u30 u31 u32 u33 u34 u35 u36 u37 u38 u39 u40 u41 u42 u43 u44 u45 u46 u47 u48 u49 u50 u51 u52 u53 u54 u55 u56 u57 u58 u59 u60 u61 u62 u63 u64 u65 u66 u67 u68 u69 u70 u71 u72 u73 u74 u75 u76 u77 u78 u79 u80 u81 u82 u83 u84 u85 u86 u87 u88 u89 u90 u91 u92 u93 u94 u95 u96 u97 u98 u99 u100 u101 u102 u103 u104 u105 u106 u107 u108 u109 u110 u111 u112 u113 u114 u115 u116 u117 u118 u119 u120 u121 u122 u123 u124
end Go.Proofs.YtgcaephfhfkjcaaGreatDoor
namespace Go.Proofs.YtgcaephfhfkjcaaGreatDoor
open Go.RowKit

/-- what stays. -/
def KK (w0 : World) (g rc : Nat) (w : World) : Prop := Kb g (rc + 1) w0 w ∧ Has w rc 40 #[.int .i64 0, .int .i64 0] ∧ g < rc
theorem KK.step {w0 w w' : World} {g rc : Nat} (h : KK w0 g rc w) (hk : Kb g (rc + 1) w w') : KK w0 g rc w' := ⟨h.1.trans hk, hk.has h.2.1 (by omega) (by have := h.2.2; omega), h.2.2⟩
theorem KK.lt {w0 w : World} {g rc : Nat} (h : KK w0 g rc w) : rc + 1 ≤ w.heap.size := h.2.1.lt
section
variable (s : ByteArray) (g rc : Nat) (w0 : World)
/-- between words. -/
def J0 (n : Nat) (a : Act) (w : World) : Prop := ∃ at_ lineAt σ st, Fr a g rc st ∧ KK w0 g rc w ∧ LxM w g (rc + 1) s at_ lineAt σ at_ ∧ at_ ≤ s.size ∧ σ.col + lineAt = at_ + 1 ∧ Tk.play (Tk.lx (s.data.toList.drop at_)) σ = Tk.tells s.data.toList ∧ n = 3 * (s.size - at_) + 1
/-- in a bare word. -/
def J4 (n : Nat) (a : Act) (w : World) : Prop := ∃ (b at_ lineAt : Nat) (σ : Tk.St), Fr a g rc (.int .i64 b) ∧ KK w0 g rc w ∧ LxM w g (rc + 1) s at_ lineAt σ b ∧ b < s.size ∧ Tk.ends (nb s b) = false ∧ b ≤ at_ ∧ at_ ≤ s.size ∧ σ.col + lineAt = b + 1 ∧
  at_ + Tk.bareLen (s.data.toList.drop at_) = b + Tk.bareLen (s.data.toList.drop b) ∧ Tk.play (Tk.lx (s.data.toList.drop b)) σ = Tk.tells s.data.toList ∧ n = 3 * (s.size - at_) + if Tk.ends (nb s at_) then 2 else 0
/-- in a quoted word. -/
def J3 (n : Nat) (a : Act) (w : World) : Prop := ∃ (b at_ lineAt : Nat) (σ : Tk.St), Fr a g rc (.int .i64 b) ∧ KK w0 g rc w ∧ LxM w g (rc + 1) s at_ lineAt σ b ∧ b < s.size ∧ (nb s b).toNat = 34 ∧ b + 1 ≤ at_ ∧ at_ ≤ s.size ∧ σ.col + lineAt = b + 1 ∧
  Tk.quoLen (s.data.toList.drop (b + 1)) = (Tk.quoLen (s.data.toList.drop at_)).map (at_ - (b + 1) + ·) ∧ Tk.play (Tk.lx (s.data.toList.drop b)) σ = Tk.tells s.data.toList ∧ n = 3 * (s.size - at_)
/-- in a remark. -/
def J2 (n : Nat) (a : Act) (w : World) : Prop := ∃ (b at_ lineAt : Nat) (σ : Tk.St) (st : Value), Fr a g rc st ∧ KK w0 g rc w ∧ LxM w g (rc + 1) s at_ lineAt σ b ∧ b < s.size ∧ (nb s b).toNat = 59 ∧ b ≤ at_ ∧ at_ ≤ s.size ∧ σ.col + lineAt = b + 1 ∧
  at_ + Tk.remLen (s.data.toList.drop at_) = b + Tk.remLen (s.data.toList.drop b) ∧ Tk.play (Tk.lx (s.data.toList.drop b)) σ = Tk.tells s.data.toList ∧ n = 3 * (s.size - at_) + if (nb s at_).toNat = 10 then 2 else 0
/-- at the end. -/
def J1 (a : Act) (w : World) : Prop := ∃ lineAt σ st, Fr a g rc st ∧ KK w0 g rc w ∧ LxM w g (rc + 1) s s.size lineAt σ s.size ∧ Tk.play [] σ = Tk.tells s.data.toList
def Jl (n l : Nat) (a : Act) (w : World) : Prop :=
  (l = 0 ∧ J0 s g rc w0 n a w) ∨ (l = 1 ∧ J1 s g rc w0 a w) ∨ (l = 2 ∧ J2 s g rc w0 n a w) ∨ (l = 3 ∧ J3 s g rc w0 n a w) ∨ (l = 4 ∧ J4 s g rc w0 n a w)
/-- what read tells: the lexer's row of entries too. -/
def RdP : Ending → World → Prop := fun e w' =>
  Kb g rc w0 w' ∧ match Tk.tells s.data.toList with
    | .err l c x => e = .returned (.tuple #[.agg #[.int .i64 l, .int .i64 c], .int .i64 x])
    | .ok es => e = .returned (.tuple #[.agg #[.int .i64 0, .int .i64 0], .int .i64 0]) ∧ ∃ ve out, w'.cell? ⟨g, 10, none⟩ = some ve ∧ Ers w' (rc + 1) ve out ∧ out.map Ex.en = es
/-- read's code, from its first label on. -/
noncomputable def rdBody : Code := match Tryz.f50.body with | some (Code.seq _ (Code.scope c)) => c | _ => .skip
abbrev Next (n : Nat) (Q : Exit → Act → World → Prop) : Exit → Act → World → Prop := jumps (fun l' a' w' => ∃ n', n' < n ∧ Jl s g rc w0 n' l' a' w') Q
end
end Go.Proofs.YtgcaephfhfkjcaaGreatDoor
namespace Go.Proofs.YtgcaephfhfkjcaaGreatDoor
open Go.RowKit

theorem tk1_tlen {s : ByteArray} {at_ : Nat} (h : at_ < s.size) : tk1 s at_ = Tk.tlen (s.data.toList.drop at_) := by
  rw [nb_drop h]
  unfold tk1
  by_cases h2 : at_ + 1 < s.size
  · rw [nb_drop h2]; rfl
  · rw [drop_end (at_ := at_ + 1) (by omega), nb_end (at_ := at_ + 1) (by omega)]
    show _ = 1
    rw [if_neg]
    rintro ⟨_, h⟩
    exact h rfl
theorem tk1_two (s : ByteArray) (at_ : Nat) : tk1 s at_ ≤ 2 ∧ 1 ≤ tk1 s at_ := by
  unfold tk1
  split <;> omega
theorem tk1_le {s : ByteArray} {at_ : Nat} (h : at_ < s.size) : at_ + tk1 s at_ ≤ s.size := by
  rw [tk1_tlen h]
  have := Tk.tlen_le (c := nb s at_) (r := s.data.toList.drop (at_ + 1))
  rw [← nb_drop h] at this
  simp at this
  have h3 : s.data.size = s.size := rfl
  omega
theorem quo_err {s : ByteArray} {b at_ : Nat} {σ : Tk.St} {R : Tk.Rs} (hb : b < s.size) (h34 : (nb s b).toNat = 34) (h10 : (nb s at_).toNat = 10)
    (hq : Tk.quoLen (s.data.toList.drop (b + 1)) = (Tk.quoLen (s.data.toList.drop at_)).map (at_ - (b + 1) + ·)) (hp : Tk.play (Tk.lx (s.data.toList.drop b)) σ = R) : R = .err σ.line σ.col 80 := by
  have h0 : Tk.quoLen (s.data.toList.drop at_) = none := by
    by_cases h : at_ < s.size
    · rw [nb_drop h]; exact Tk.quoLen_lf h10
    · rw [drop_end (by omega)]; rfl
  rw [h0] at hq
  rw [nb_drop hb, Tk.lx_bad h34 hq] at hp
  exact hp.symm
theorem quo_done {s : ByteArray} {b at_ : Nat} {σ : Tk.St} {R : Tk.Rs} (hb : b < s.size) (h34 : (nb s b).toNat = 34) (hle : b + 1 ≤ at_) (hat : at_ < s.size) (hc : (nb s at_).toNat = 34)
    (hq : Tk.quoLen (s.data.toList.drop (b + 1)) = (Tk.quoLen (s.data.toList.drop at_)).map (at_ - (b + 1) + ·)) (hp : Tk.play (Tk.lx (s.data.toList.drop b)) σ = R) :
    Tk.play (Tk.lx (s.data.toList.drop (at_ + 1))) (σ.put (s.extract (b + 1) at_).data.toList true (at_ + 1 - b)) = R := by
  rw [nb_drop hat, Tk.quoLen_q hc] at hq
  simp only [Option.map_some, Nat.add_zero] at hq
  rw [nb_drop hb, Tk.lx_quo h34 hq, Tk.play, List.drop_drop] at hp
  have hl : (List.take (at_ - (b + 1)) (s.data.toList.drop (b + 1))).length + 2 = at_ + 1 - b := by
    rw [List.length_take, List.length_drop]
    have h3 : s.data.toList.length = s.size := by simp
    omega
  rw [hl, show b + 1 + (at_ - (b + 1) + 1) = at_ + 1 by omega] at hp
  rw [extract_list]
  exact hp
theorem quo_step {s : ByteArray} {b at_ : Nat} (hle : b + 1 ≤ at_) (hat : at_ < s.size) (h10 : (nb s at_).toNat ≠ 10) (h34 : (nb s at_).toNat ≠ 34)
    (hq : Tk.quoLen (s.data.toList.drop (b + 1)) = (Tk.quoLen (s.data.toList.drop at_)).map (at_ - (b + 1) + ·)) :
    Tk.quoLen (s.data.toList.drop (b + 1)) = (Tk.quoLen (s.data.toList.drop (at_ + tk1 s at_))).map (at_ + tk1 s at_ - (b + 1) + ·) := by
  have h1 := Tk.quoLen_step (r := s.data.toList.drop (at_ + 1)) h10 h34
  rw [← nb_drop hat, ← tk1_tlen hat, List.drop_drop] at h1
  rw [hq, h1, Option.map_map]
  congr 1
  funext k
  simp only [Function.comp]
  omega
set_option maxHeartbeats 2000000 in
set_option maxRecDepth 100000 in
theorem pass3 (s : ByteArray) (g rc : Nat) (w0 : World) (n : Nat) (a : Act) (w : World) (hs : s.size ≤ 262144) (h : J3 s g rc w0 n a w) :
    ∃ rest, findLabel rdBody 3 = some rest ∧ rest.wp Tryz.prog (Next s g rc w0 n (bodyPost Tryz.prog Tryz.f50 (RdP s g rc w0))) a w := by
  obtain ⟨b, at_, lineAt, σ, hfr, hkk, hM, hb, h34, hle, hat, hc, hq, hplay, hn⟩ := h
  have HKK := Lib.hid hkk
  have HGB : Hid (g < rc + 1) := Nat.lt_succ_of_lt hkk.2.2
  have HN := Lib.hid (next_M hM HGB.out hat)
  have HAT := Lib.hid hat
  have HLE := Lib.hid hle
  have hat2 : at_ ≤ 262144 := by omega
  have hb2 : b ≤ 262144 := by omega
  by_cases h10 : (nb s at_).toNat = 10
  · have HR := Lib.hid (quo_err hb h34 h10 hq hplay)
    have HQ : Hid (((nb s at_).toNat : Int) = 10) := by rw [Hid, h10]; rfl
    rw [HQ.out] at HN
    have HS := Lib.hid (fun (W : World) (hW : LxM W g (rc + 1) s at_ lineAt σ b) => spot_M hW HGB.out hb2 (p := b) (by omega) hc)
    have hi2 : (Tryz.prog.info? 40).map (·.size) = some 2 := by kernel_rfl
    have HI := Lib.hid hi2
    clear h10 hkk hM hb h34 hle hat hc hq hplay HQ hs hn hi2
    refine Fr.elim (motive := fun a => ∃ rest, findLabel rdBody 3 = some rest ∧ rest.wp Tryz.prog (Next s g rc w0 n (bodyPost Tryz.prog Tryz.f50 (RdP s g rc w0))) a w) ?_ hfr
    intro u1 u5 u6 u7 u8 u9 u10 u11 u12 u13 u14 u15 u16 u17 u18 u19 u20 u21 u22 u23 u24 u25 u26 u27 u28 u29 u30 u31 u32 u33 u34 u35 u36 u37 u38 u39 u40 u41 u42 u43 u44 u45 u46 u47 u48 u49 u50 u51 u52 u53 u54 u55 u56 u57 u58 u59 u60 u61 u62 u63 u64 u65 u66 u67 u68 u69 u70 u71 u72 u73 u74 u75 u76 u77 u78 u79 u80 u81 u82 u83 u84 u85 u86 u87 u88 u89 u90 u91 u92 u93 u94 u95 u96 u97 u98 u99 u100 u101 u102 u103 u104 u105 u106 u107 u108 u109 u110 u111 u112 u113 u114 u115 u116 u117 u118 u119 u120 u121 u122 u123 u124
    refine ⟨_, rfl, ?_⟩
    go_wp2_with (first
      | (go_at_call 82; refine HN.out.mono ?_; rintro e w1 ⟨rfl, h1, g1⟩; have HG := Lib.hid g1; have HM1 := Lib.hid h1; clear h1 g1)
      | (go_at_call 84; refine (HS.out _ HM1.out).mono ?_; rintro e w2 ⟨rfl, h2, g2⟩; have HK2 := Lib.hid (HKK.out.step ((Kb.grown (grown_any HG.out _) HKK.out.lt).trans (Kb.grown (grown_any g2 _) (Nat.le_trans HKK.out.lt HG.out.size)))); have r0 : w2.cell? ⟨rc, 0, none⟩ = some (.int .i64 0) := HK2.out.2.1.cell 0; have r1 : w2.cell? ⟨rc, 1, none⟩ = some (.int .i64 0) := HK2.out.2.1.cell 1; have q0 := HK2.out.2.1.free 0; have q1 := HK2.out.2.1.free 1; clear h2 g2))
    show bodyPost _ _ _ Exit.ret _ _
    refine bodyPost_ret (results_row_tmp rfl _ _ rc 40 #[.int .i64 σ.line, .int .i64 σ.col] _ rfl ((HK2.out.2.1.set 0 _).set 1 _) Tryz.underlying40 rfl HI.out) rfl ?_
    refine ⟨((HK2.out.1.mono (Nat.le_succ _)).setHi (p := ⟨rc, 0, none⟩) (Nat.le_refl _) _).setHi (p := ⟨rc, 1, none⟩) (Nat.le_refl _) _, ?_⟩
    rw [HR.out]
    rfl
  · have hlt : at_ < s.size := by
      rcases Nat.lt_or_ge at_ s.size with h | h
      · exact h
      · rw [nb_end h] at h10; exact absurd rfl h10
    have q10 : (((nb s at_).toNat : Int) == 10) = false := beq_eq_false_iff_ne.2 (by omega)
    by_cases hc34 : (nb s at_).toNat = 34
    · have HPL := Lib.hid (quo_done hb h34 hle hlt hc34 hq hplay)
      have HQ : Hid (((nb s at_).toNat : Int) = 34) := by rw [Hid, hc34]; rfl
      rw [HQ.out] at HN
      have HP := Lib.hid (fun (W : World) (hW : LxM W g (rc + 1) s at_ lineAt σ b) (hb : rc + 1 ≤ W.heap.size) => put_M hW HGB.out hb (s.extract (b + 1) at_) true (p := b) (by omega) (Nat.le_refl _) hc (at_ + 1 - b))
      have HMU : Hid (3 * (s.size - (at_ + 1)) + 1 < n) := by rw [Hid, hn]; omega
      have HC : Hid ((σ.put (s.extract (b + 1) at_).data.toList true (at_ + 1 - b)).col + lineAt = at_ + 1 + 1) := by
        show σ.col + (at_ + 1 - b) + lineAt = _
        omega
      have HLT := Lib.hid hlt
      have i1 : (0 : Int) ≤ (b : Int) + 1 := by omega
      have i2 : (b : Int) + 1 ≤ (at_ : Int) := by omega
      have i3 : (at_ : Int) ≤ (s.size : Int) := by omega
      have w1' : IntKind.i64.wrap ((b : Int) + 1) = (b : Int) + 1 := by rw [IntKind.wrap_i64]; omega
      clear h10 hkk hM hb h34 hle hat hc hq hplay HQ hs hn hc34 hlt q10
      refine Fr.elim (motive := fun a => ∃ rest, findLabel rdBody 3 = some rest ∧ rest.wp Tryz.prog (Next s g rc w0 n (bodyPost Tryz.prog Tryz.f50 (RdP s g rc w0))) a w) ?_ hfr
      intro u1 u5 u6 u7 u8 u9 u10 u11 u12 u13 u14 u15 u16 u17 u18 u19 u20 u21 u22 u23 u24 u25 u26 u27 u28 u29 u30 u31 u32 u33 u34 u35 u36 u37 u38 u39 u40 u41 u42 u43 u44 u45 u46 u47 u48 u49 u50 u51 u52 u53 u54 u55 u56 u57 u58 u59 u60 u61 u62 u63 u64 u65 u66 u67 u68 u69 u70 u71 u72 u73 u74 u75 u76 u77 u78 u79 u80 u81 u82 u83 u84 u85 u86 u87 u88 u89 u90 u91 u92 u93 u94 u95 u96 u97 u98 u99 u100 u101 u102 u103 u104 u105 u106 u107 u108 u109 u110 u111 u112 u113 u114 u115 u116 u117 u118 u119 u120 u121 u122 u123 u124
      refine ⟨_, rfl, ?_⟩
      go_wp2_with (go_at_call 82; refine HN.out.mono ?_; rintro e w1 ⟨rfl, h1, g1⟩; have HG := Lib.hid g1; have HM1 := Lib.hid h1; have c0 := h1.c0; have c1 := h1.c1; clear h1 g1)
      go_still_tail 14, (by kernel_rfl)
      change wpList _ _ _ _ _ w1.drew
      have HM2 : Hid (LxM w1.drew g (rc + 1) s at_ lineAt σ b) := HM1.out.none HGB.out (grown_drewN w1 1 none)
      have HK2 : Hid (KK w0 g rc w1.drew) := HKK.out.step (Kb.grown (grown_any (grown_trans HG.out (grown_drewN w1 1 none)) _) HKK.out.lt)
      clear c0 c1 HG HM1 HN HKK
      generalize w1.drew = w2 at *
      go_wp2_with (go_at_call 87; refine (HP.out _ HM2.out HK2.out.lt).mono ?_; rintro e w3 ⟨rfl, h3, k3⟩; have HM3 := Lib.hid h3; have HK3 := Lib.hid (HK2.out.step k3); have c1 := h3.c1; have f1 := h3.free 1; clear h3 k3)
      go_step3
      exact ⟨_, HMU.out, .inl ⟨rfl, at_ + 1, lineAt, _, _, ⟨rfl, rfl, rfl, rfl, rfl, rfl⟩, HK3.out.step ((Kb.refl _ _ _).set 1 _), (HM3.out.inc HGB.out).more (Nat.le_succ_of_le HLE.out), HLT.out, HC.out, HPL.out, rfl⟩⟩
    · have q34 : (((nb s at_).toNat : Int) == 34) = false := beq_eq_false_iff_ne.2 (by omega)
      have HQS := Lib.hid (quo_step hle hlt h10 hc34 hq)
      have HT := Lib.hid (fun (W : World) (hW : LxM W g (rc + 1) s at_ lineAt σ b) => take_M hW HGB.out hlt hs)
      have h2 := tk1_two s at_
      have hl2 := tk1_le hlt
      have HMU : Hid (3 * (s.size - (at_ + tk1 s at_)) < n) := by rw [Hid, hn]; omega
      have HB := Lib.hid hb
      have H34 := Lib.hid h34
      have HC := Lib.hid hc
      have HPL := Lib.hid hplay
      have HL2 := Lib.hid hl2
      have HLE2 : Hid (b + 1 ≤ at_ + tk1 s at_) := by rw [Hid]; omega
      generalize ((nb s at_).toNat : Int) = q at *
      generalize at_ + tk1 s at_ = at2 at *
      clear h10 hkk hM hb h34 hle hat hc hq hplay hs hn hc34 hlt h2 hl2
      refine Fr.elim (motive := fun a => ∃ rest, findLabel rdBody 3 = some rest ∧ rest.wp Tryz.prog (Next s g rc w0 n (bodyPost Tryz.prog Tryz.f50 (RdP s g rc w0))) a w) ?_ hfr
      intro u1 u5 u6 u7 u8 u9 u10 u11 u12 u13 u14 u15 u16 u17 u18 u19 u20 u21 u22 u23 u24 u25 u26 u27 u28 u29 u30 u31 u32 u33 u34 u35 u36 u37 u38 u39 u40 u41 u42 u43 u44 u45 u46 u47 u48 u49 u50 u51 u52 u53 u54 u55 u56 u57 u58 u59 u60 u61 u62 u63 u64 u65 u66 u67 u68 u69 u70 u71 u72 u73 u74 u75 u76 u77 u78 u79 u80 u81 u82 u83 u84 u85 u86 u87 u88 u89 u90 u91 u92 u93 u94 u95 u96 u97 u98 u99 u100 u101 u102 u103 u104 u105 u106 u107 u108 u109 u110 u111 u112 u113 u114 u115 u116 u117 u118 u119 u120 u121 u122 u123 u124
      refine ⟨_, rfl, ?_⟩
      go_wp2_with (first
        | (go_at_call 82; refine HN.out.mono ?_; rintro e w1 ⟨rfl, h1, g1⟩; have HG := Lib.hid g1; have HM1 := Lib.hid h1; clear h1 g1)
        | (go_at_call 88; refine (HT.out _ HM1.out).mono ?_; rintro e w2 ⟨rfl, h2, g2⟩; have HM2 := Lib.hid h2; have HK2 := Lib.hid (HKK.out.step ((Kb.grown (grown_any HG.out _) HKK.out.lt).trans (Kb.grown g2 (Nat.le_trans HKK.out.lt HG.out.size)))); clear h2 g2))
      go_step3
      exact ⟨_, HMU.out, .inr (.inr (.inr (.inl ⟨rfl, b, at2, lineAt, σ, ⟨rfl, rfl, rfl, rfl, rfl, rfl⟩, HK2.out, HM2.out, HB.out, H34.out, HLE2.out, HL2.out, HC.out, HQS.out, HPL.out, rfl⟩)))⟩
end Go.Proofs.YtgcaephfhfkjcaaGreatDoor
namespace Go.Proofs.YtgcaephfhfkjcaaGreatDoor
open Go.RowKit

theorem bare_done {s : ByteArray} {b at_ : Nat} {σ : Tk.St} {R : Tk.Rs} (hb : b < s.size) (hends : Tk.ends (nb s b) = false) (_ : b ≤ at_) (hat : at_ ≤ s.size) (he : Tk.ends (nb s at_) = true)
    (hq : at_ + Tk.bareLen (s.data.toList.drop at_) = b + Tk.bareLen (s.data.toList.drop b)) (hp : Tk.play (Tk.lx (s.data.toList.drop b)) σ = R) :
    b + 1 ≤ at_ ∧ Tk.play (Tk.lx (s.data.toList.drop at_)) (σ.put (s.extract b at_).data.toList false (at_ - b)) = R := by
  have h0 : Tk.bareLen (s.data.toList.drop at_) = 0 := by
    by_cases h : at_ < s.size
    · rw [nb_drop h]; exact Tk.bareLen_end he
    · rw [drop_end (by omega)]; rfl
  have h1 : 1 ≤ Tk.bareLen (s.data.toList.drop b) := by
    rw [nb_drop hb]; exact Tk.bareLen_pos hends
  have hp' := hp
  rw [nb_drop hb, Tk.lx_bare hends, ← nb_drop hb, Tk.play, List.drop_drop] at hp'
  have hk : Tk.bareLen (s.data.toList.drop b) = at_ - b := by omega
  have hl : (List.take (at_ - b) (s.data.toList.drop b)).length = at_ - b := by
    rw [List.length_take, List.length_drop]
    have h3 : s.data.toList.length = s.size := by simp
    omega
  rw [hk, hl, show b + (at_ - b) = at_ by omega] at hp'
  rw [extract_list]
  exact ⟨by omega, hp'⟩
theorem bare_step {s : ByteArray} {b at_ : Nat} (hat : at_ < s.size) (he : Tk.ends (nb s at_) = false)
    (hq : at_ + Tk.bareLen (s.data.toList.drop at_) = b + Tk.bareLen (s.data.toList.drop b)) :
    at_ + tk1 s at_ + Tk.bareLen (s.data.toList.drop (at_ + tk1 s at_)) = b + Tk.bareLen (s.data.toList.drop b) := by
  have h1 := Tk.bareLen_step (r := s.data.toList.drop (at_ + 1)) he
  rw [← nb_drop hat, ← tk1_tlen hat, List.drop_drop] at h1
  omega
set_option maxHeartbeats 2000000 in
set_option maxRecDepth 100000 in
theorem pass4 (s : ByteArray) (g rc : Nat) (w0 : World) (n : Nat) (a : Act) (w : World) (hs : s.size ≤ 262144) (h : J4 s g rc w0 n a w) :
    ∃ rest, findLabel rdBody 4 = some rest ∧ rest.wp Tryz.prog (Next s g rc w0 n (bodyPost Tryz.prog Tryz.f50 (RdP s g rc w0))) a w := by
  obtain ⟨b, at_, lineAt, σ, hfr, hkk, hM, hb, hends, hle, hat, hc, hq, hplay, hn⟩ := h
  have HKK := Lib.hid hkk
  have HGB : Hid (g < rc + 1) := Nat.lt_succ_of_lt hkk.2.2
  have HN := Lib.hid (next_M hM HGB.out hat)
  have HE := Lib.hid (endsBare_any (nb s at_))
  have HAT := Lib.hid hat
  have HLE := Lib.hid hle
  have hat2 : at_ ≤ 262144 := by omega
  have hb2 : b ≤ 262144 := by omega
  by_cases he : Tk.ends (nb s at_) = true
  · obtain ⟨hlt, hpl⟩ := bare_done hb hends hle hat he hq hplay
    have HPL := Lib.hid hpl
    rw [he] at HE
    have HP := Lib.hid (fun (W : World) (hW : LxM W g (rc + 1) s at_ lineAt σ b) (hb : rc + 1 ≤ W.heap.size) => put_M hW HGB.out hb (s.extract b at_) false (p := b) (by omega) (Nat.le_refl _) hc (at_ - b))
    have HMU : Hid (3 * (s.size - at_) + 1 < n) := by rw [Hid, hn, if_pos he]; omega
    have HC : Hid ((σ.put (s.extract b at_).data.toList false (at_ - b)).col + lineAt = at_ + 1) := by
      show σ.col + (at_ - b) + lineAt = _
      omega
    have HLT := Lib.hid hlt
    have i1 : (0 : Int) ≤ (b : Int) := by omega
    have i2 : (b : Int) ≤ (at_ : Int) := by omega
    have i3 : (at_ : Int) ≤ (s.size : Int) := by omega
    generalize ((nb s at_).toNat : Int) = q at *
    clear hkk hM hb hends hle hat hc hq hplay hs hn he hlt hpl
    refine Fr.elim (motive := fun a => ∃ rest, findLabel rdBody 4 = some rest ∧ rest.wp Tryz.prog (Next s g rc w0 n (bodyPost Tryz.prog Tryz.f50 (RdP s g rc w0))) a w) ?_ hfr
    intro u1 u5 u6 u7 u8 u9 u10 u11 u12 u13 u14 u15 u16 u17 u18 u19 u20 u21 u22 u23 u24 u25 u26 u27 u28 u29 u30 u31 u32 u33 u34 u35 u36 u37 u38 u39 u40 u41 u42 u43 u44 u45 u46 u47 u48 u49 u50 u51 u52 u53 u54 u55 u56 u57 u58 u59 u60 u61 u62 u63 u64 u65 u66 u67 u68 u69 u70 u71 u72 u73 u74 u75 u76 u77 u78 u79 u80 u81 u82 u83 u84 u85 u86 u87 u88 u89 u90 u91 u92 u93 u94 u95 u96 u97 u98 u99 u100 u101 u102 u103 u104 u105 u106 u107 u108 u109 u110 u111 u112 u113 u114 u115 u116 u117 u118 u119 u120 u121 u122 u123 u124
    refine ⟨_, rfl, ?_⟩
    go_wp2_with (first
      | (go_at_call 82; refine HN.out.mono ?_; rintro e w1 ⟨rfl, h1, g1⟩; have HG := Lib.hid g1; have HM1 := Lib.hid h1; have c0 := h1.c0; have c1 := h1.c1; clear h1 g1)
      | (go_at_call 85; refine (HE.out _).mono ?_; rintro e w2 ⟨rfl, hw2⟩; subst hw2))
    go_still_tail 13, (by kernel_rfl)
    change wpList _ _ _ _ _ w2.drew
    have HM2 : Hid (LxM w2.drew g (rc + 1) s at_ lineAt σ b) := HM1.out.none HGB.out (grown_drewN w2 1 none)
    have HK2 : Hid (KK w0 g rc w2.drew) := HKK.out.step (Kb.grown (grown_any (grown_trans HG.out (grown_drewN w2 1 none)) _) HKK.out.lt)
    clear c0 c1 HG HM1 HN HKK
    generalize w2.drew = w4 at *
    go_wp2_with (go_at_call 87; refine (HP.out _ HM2.out HK2.out.lt).mono ?_; rintro e w3 ⟨rfl, h3, k3⟩; have HM3 := Lib.hid h3; have HK3 := Lib.hid (HK2.out.step k3); clear h3 k3)
    go_step3
    exact ⟨_, HMU.out, .inl ⟨rfl, at_, lineAt, _, _, ⟨rfl, rfl, rfl, rfl, rfl, rfl⟩, HK3.out, HM3.out.more HLT.out, HAT.out, HC.out, HPL.out, rfl⟩⟩
  · simp only [Bool.not_eq_true] at he
    have hlt : at_ < s.size := by
      rcases Nat.lt_or_ge at_ s.size with h | h
      · exact h
      · rw [nb_end h] at he; exact absurd he (by decide)
    rw [he] at HE
    have HQS := Lib.hid (bare_step hlt he hq)
    have HT := Lib.hid (fun (W : World) (hW : LxM W g (rc + 1) s at_ lineAt σ b) => take_M hW HGB.out hlt hs)
    have h2 := tk1_two s at_
    have hl2 := tk1_le hlt
    have HMU : Hid (3 * (s.size - (at_ + tk1 s at_)) + (if Tk.ends (nb s (at_ + tk1 s at_)) then 2 else 0) < n) := by
      rw [Hid, hn, he]
      split <;> simp <;> omega
    have HB := Lib.hid hb
    have HEN := Lib.hid hends
    have HC := Lib.hid hc
    have HPL := Lib.hid hplay
    have HL2 := Lib.hid hl2
    have HLE2 : Hid (b ≤ at_ + tk1 s at_) := by rw [Hid]; omega
    generalize ((nb s at_).toNat : Int) = q at *
    generalize at_ + tk1 s at_ = at2 at *
    clear hkk hM hb hends hle hat hc hq hplay hs hn he hlt h2 hl2
    refine Fr.elim (motive := fun a => ∃ rest, findLabel rdBody 4 = some rest ∧ rest.wp Tryz.prog (Next s g rc w0 n (bodyPost Tryz.prog Tryz.f50 (RdP s g rc w0))) a w) ?_ hfr
    intro u1 u5 u6 u7 u8 u9 u10 u11 u12 u13 u14 u15 u16 u17 u18 u19 u20 u21 u22 u23 u24 u25 u26 u27 u28 u29 u30 u31 u32 u33 u34 u35 u36 u37 u38 u39 u40 u41 u42 u43 u44 u45 u46 u47 u48 u49 u50 u51 u52 u53 u54 u55 u56 u57 u58 u59 u60 u61 u62 u63 u64 u65 u66 u67 u68 u69 u70 u71 u72 u73 u74 u75 u76 u77 u78 u79 u80 u81 u82 u83 u84 u85 u86 u87 u88 u89 u90 u91 u92 u93 u94 u95 u96 u97 u98 u99 u100 u101 u102 u103 u104 u105 u106 u107 u108 u109 u110 u111 u112 u113 u114 u115 u116 u117 u118 u119 u120 u121 u122 u123 u124
    refine ⟨_, rfl, ?_⟩
    go_wp2_with (first
      | (go_at_call 82; refine HN.out.mono ?_; rintro e w1 ⟨rfl, h1, g1⟩; have HG := Lib.hid g1; have HM1 := Lib.hid h1; clear h1 g1)
      | (go_at_call 85; refine (HE.out _).mono ?_; rintro e w2 ⟨rfl, rfl⟩)
      | (go_at_call 88; refine (HT.out _ HM1.out).mono ?_; rintro e w2 ⟨rfl, h2, g2⟩; have HM2 := Lib.hid h2; have HK2 := Lib.hid (HKK.out.step ((Kb.grown (grown_any HG.out _) HKK.out.lt).trans (Kb.grown g2 (Nat.le_trans HKK.out.lt HG.out.size)))); clear h2 g2))
    go_step3
    exact ⟨_, HMU.out, .inr (.inr (.inr (.inr ⟨rfl, b, at2, lineAt, σ, ⟨rfl, rfl, rfl, rfl, rfl, rfl⟩, HK2.out, HM2.out, HB.out, HEN.out, HLE2.out, HL2.out, HC.out, HQS.out, HPL.out, rfl⟩)))⟩
end Go.Proofs.YtgcaephfhfkjcaaGreatDoor
