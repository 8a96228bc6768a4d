/- EffectOne: what is asked of each of them, the first one: read alone. Condition: what it should be. -/
import Derived.Test.YtnadhpajelkngaaKLnd
import Derived.Test.YtnadhpajelkngaaKBase
import Derived.Test.YtnadhpajelkngaaKUm
import Derived.BigQuiet
import Derived.Laws.Cover1
/- EffectOne: what is asked of each of them, the first one: read alone. Condition: what it should be. -/
namespace Go.Proofs.Ytnadhpajelkngaa
open Go.RowKit Go.Deep

/-- A region's operations, by its number. -/
def regOps : Nat → Code → Nat → Option (Array Oper)
  | 0, _, _ => none
  | _ + 1, .region k ops _, n => if k = n then some ops else none
  | f + 1, .seq a b, n => (regOps f a n).or (regOps f b n)
  | f + 1, .cond _ a b, n => (regOps f a n).or (regOps f b n)
  | f + 1, .loop a, n => regOps f a n
  | f + 1, .block _ a, n => regOps f a n
  | f + 1, .scope a, n => regOps f a n
  | _ + 1, _, _ => none
set_option maxHeartbeats 8000000 in
set_option maxRecDepth 100000 in
theorem effCond0 {s0 s1 s2 s9 s10 s11 s12 s13 s14 s15 s16 s17 s18 s19 s20 s21 s22 s23 s24 s25 s26 s27 s28 s29 s30 s31 s32 s33 s34 s35 s36 s37 s38 s39 s40 s41 s42 s43 s44 s45 s46 s47 s48 s49 s50 s51 s52 s53 s54 s55 s56 s57 s58 s59 s60 s61 s62 s63 s64 s65 s66 s67 s68 s69 s70 s71 s72 s73 s74 s75 s76 s77 s78 s79 s80 s81 s82 s83 s84 s85 s86 s87 s88 s89 s90 s91 s92 s93 s94 s95 s96 s97 s98 s99 s100 s101 s102 s103 s104 s105 s106 s107 s108 s109 s110 s111 s112 s113 s114 s115 s116 s117 s118 s119 s120 s121 s122 s123 s124 s125 s126 s127 s128 s129 s130 s131 s132 s133 s134 s135 s136 s137 s138 s139 s140 s141 s142 s143 s144 s145 s146 s147 s148 s149 s150 s151 s152 s153 s154 s155 s156 s157 s158 s159 s160 s161 s162 s163 s164 s165 s166 s167 s168 s169 s170 s171 s172 s173 s174 s175 s176 s177 s178 s179 s180 s181 s182 s183 s184 s185 s186 s187 s188 s189 s190 s191 s192 s193 s194 s195 s196 s197 s198 s199 s200 s201 s202 s203 s204 s205 s206 s207 s208 s209 s210 : Value} {xb xo n c2 : Nat} {c r m q : Bool} {yi yp : Int} {yo : List CompV} {yn : List Nat} {yA : Option Addr} {yC : Nat} (hn : n ≤ 4000) (hi : 0 < n) {wo : World}
    (HY : ∀ X : World, Below wo.drew.heap.size wo.drew X → X.cell? ⟨xb, xo + 0 * 8, none⟩ = some (.int .i64 yi) ∧ X.cell? ⟨xb, xo + 0 * 8 + 1, none⟩ = some (.slice yA yo.length yC) ∧ X.cell? ⟨xb, xo + 0 * 8 + 2, none⟩ = some (.bool q) ∧ X.cell? ⟨xb, xo + 0 * 8 + 3, none⟩ = some (.bool r) ∧ X.cell? ⟨xb, xo + 0 * 8 + 4, none⟩ = some (.bool c) ∧ X.cell? ⟨xb, xo + 0 * 8 + 5, none⟩ = some (.bool m) ∧ X.cell? ⟨xb, xo + 0 * 8 + 6, none⟩ = some (.int .i64 yp) ∧ X.cell? ⟨xb, xo + 0 * 8 + 7, none⟩ = some (.string (bstr yn))) 
    (h5 : q = false → yo = []) (h6 : c = false → m = false → yn = [] ∧ yp = 0) {Q : Exit → Act → World → Prop} (hp : ∀ c a d v w, Q (.panic c) (Act.put a d v) w → Q (.panic c) a w) {ops : Array Oper} (hops : regOps 200 (Try.f4.body.getD .skip) 16 = some ops)
    (hQ : ∀ x78 x79 x80 x81 x82 x83 x84 x85 x86 x87 x88 x89 x90 x91 x92 x93 x94 x95 x96 x97 x98 x99 x100 x101 x102 x103 x104 x105 x106 x107 x108 x109 x110 x111 x112 x113 x114 x115 x116 x117 x118 x119 x120 x121 x122 x123 x124 x125 x126 x127 x128 x129 x130 x131 x132 x133 x134 x135 x136 x137 x138 x139 x140 x141 x142 x143 x144 x145 x146 x147 x148 x149 x150 x151 x152 x153 x154 x155 x156 x157 x158 x159 x160 x161 x162 x163 x164 x165, Q .normal ⟨#[s0, s1, s2, .slice (some ⟨xb, xo, none⟩) n c2, .int .i64 ((0 : Nat) : Int), .bool c, .bool r, .bool m, .bool q, s9, s10, s11, s12, s13, s14, s15, s16, s17, s18, s19, s20, s21, s22, s23, s24, s25, s26, s27, s28, s29, s30, s31, s32, s33, s34, s35, s36, s37, s38, s39, s40, s41, s42, s43, s44, s45, s46, s47, s48, s49, s50, s51, s52, s53, s54, s55, s56, s57, s58, s59, s60, s61, s62, s63, s64, s65, s66, s67, s68, s69, s70, s71, s72, s73, s74, s75, s76, s77, x78, x79, x80, x81, x82, x83, x84, x85, x86, x87, x88, x89, x90, x91, x92, x93, x94, x95, x96, x97, x98, x99, x100, x101, x102, x103, x104, x105, x106, x107, x108, x109, x110, x111, x112, x113, x114, x115, x116, x117, x118, x119, x120, x121, x122, x123, x124, x125, x126, x127, x128, x129, x130, x131, x132, x133, x134, x135, x136, x137, x138, x139, x140, x141, x142, x143, x144, x145, x146, x147, x148, x149, x150, x151, x152, x153, x154, x155, x156, x157, x158, x159, x160, x161, x162, x163, x164, x165, .bool false, s167, s168, s169, s170, s171, s172, s173, s174, s175, s176, s177, s178, s179, s180, s181, s182, s183, s184, s185, s186, s187, s188, s189, s190, s191, s192, s193, s194, s195, s196, s197, s198, s199, s200, s201, s202, s203, s204, s205, s206, s207, s208, s209, s210], []⟩ wo.drew) :
    (Code.region 16 ops true).wp Try.prog Q ⟨#[s0, s1, s2, .slice (some ⟨xb, xo, none⟩) n c2, .int .i64 ((0 : Nat) : Int), .bool c, .bool r, .bool m, .bool q, s9, s10, s11, s12, s13, s14, s15, s16, s17, s18, s19, s20, s21, s22, s23, s24, s25, s26, s27, s28, s29, s30, s31, s32, s33, s34, s35, s36, s37, s38, s39, s40, s41, s42, s43, s44, s45, s46, s47, s48, s49, s50, s51, s52, s53, s54, s55, s56, s57, s58, s59, s60, s61, s62, s63, s64, s65, s66, s67, s68, s69, s70, s71, s72, s73, s74, s75, s76, s77, s78, s79, s80, s81, s82, s83, s84, s85, s86, s87, s88, s89, s90, s91, s92, s93, s94, s95, s96, s97, s98, s99, s100, s101, s102, s103, s104, s105, s106, s107, s108, s109, s110, s111, s112, s113, s114, s115, s116, s117, s118, s119, s120, s121, s122, s123, s124, s125, s126, s127, s128, s129, s130, s131, s132, s133, s134, s135, s136, s137, s138, s139, s140, s141, s142, s143, s144, s145, s146, s147, s148, s149, s150, s151, s152, s153, s154, s155, s156, s157, s158, s159, s160, s161, s162, s163, s164, s165, s166, s167, s168, s169, s170, s171, s172, s173, s174, s175, s176, s177, s178, s179, s180, s181, s182, s183, s184, s185, s186, s187, s188, s189, s190, s191, s192, s193, s194, s195, s196, s197, s198, s199, s200, s201, s202, s203, s204, s205, s206, s207, s208, s209, s210], []⟩ wo := by
  have HY := Lib.hid HY
  
  have H5 := Lib.hid h5
  have H6 := Lib.hid h6
  have hiI : ((0 : Nat) : Int) < (n : Int) := by omega
  rw [show regOps 200 (Try.f4.body.getD .skip) 16 = some _ from rfl] at hops
  injection hops with hops
  subst hops
  clear h5 h6
  simp only [List.append_eq, List.cons_append, List.nil_append]
  refine wp_region_lit [(0, true), (1, true), (2, true), (3, true), (4, true), (5, true), (6, true), (7, true), (8, true), (9, true), (10, true), (11, true), (12, true), (13, true), (14, true), (15, true), (16, true), (17, true), (18, true), (19, true), (20, true), (21, true), (22, true), (23, true), (24, true), (25, true), (26, true), (27, true), (28, true), (29, true), (30, true), (31, true), (32, true), (33, true), (34, true), (35, true), (36, true), (37, true), (38, true), (39, true), (40, true), (41, true), (42, true), (43, true), (44, true), (45, true), (46, true), (47, true), (48, true), (49, true), (50, true), (51, true), (52, true), (53, true), (54, true), (55, true), (56, true), (57, true), (58, true), (59, true), (60, true), (61, true), (62, true), (63, true), (64, true), (65, true), (66, true), (67, true), (68, true), (69, true), (70, true), (71, true), (72, true), (73, true), (74, true), (75, true), (76, true), (77, true), (78, true), (79, true), (80, true), (81, true), (82, true), (83, true), (84, true), (85, true), (86, true), (87, true), (88, true)] (by kernel_rfl) (by kernel_rfl) hp ?_
  simp only [picked, List.map_cons, List.map_nil, List.getElem?_cons_succ, List.getElem?_cons_zero, Option.getD_some]
  generalize wo.drew = wd at HY hQ ⊢
  have y0 := fun e : Ext wd => (HY.out e.val e.property).1
  have y1 := fun e : Ext wd => (HY.out e.val e.property).2.1
  have y2 := fun e : Ext wd => (HY.out e.val e.property).2.2.1
  have y3 := fun e : Ext wd => (HY.out e.val e.property).2.2.2.1
  have y4 := fun e : Ext wd => (HY.out e.val e.property).2.2.2.2.1
  have y5 := fun e : Ext wd => (HY.out e.val e.property).2.2.2.2.2.1
  have y6 := fun e : Ext wd => (HY.out e.val e.property).2.2.2.2.2.2.1
  have y7 := fun e : Ext wd => (HY.out e.val e.property).2.2.2.2.2.2.2
  have dl : decide ((0 : Int) < (([] : List CompV).length : Int)) = false := by decide
  have d00 : ((0 : Int) != 0) = false := by decide
  have d0 : decide ((0 : Int) < ((0 : Nat) : Int)) = false := by decide
  repeat (first | (refine wpL_quiet (by rfl) (fun K hK => ?_); go_big_quiet_op; refine hK _ ?_; clear hK K) | (refine wpL_skip (by rfl) ?_; simp only [Act.put, List.setIfInBounds_toArray, List.set_cons_zero, List.set_cons_succ]) | simp only [d0] | simp only [bne_self_eq_false] | simp only [empty_yes] | simp only [dl] | simp only [d00] | simp only [Bool.not_true] | simp only [Bool.not_false] | simp only [Bool.or_false] | simp only [Bool.false_or] | simp only [Bool.true_or] | simp only [Bool.or_true] | simp only [Bool.false_and] | simp only [Bool.true_and] | simp only [Bool.and_true] | simp only [Bool.and_false])
  cases q with
  | true =>
    repeat (first | (refine wpL_quiet (by rfl) (fun K hK => ?_); go_big_quiet_op; refine hK _ ?_; clear hK K) | (refine wpL_skip (by rfl) ?_; simp only [Act.put, List.setIfInBounds_toArray, List.set_cons_zero, List.set_cons_succ]) | simp only [d0] | simp only [bne_self_eq_false] | simp only [empty_yes] | simp only [dl] | simp only [d00] | simp only [Bool.not_true] | simp only [Bool.not_false] | simp only [Bool.or_false] | simp only [Bool.false_or] | simp only [Bool.true_or] | simp only [Bool.or_true] | simp only [Bool.false_and] | simp only [Bool.true_and] | simp only [Bool.and_true] | simp only [Bool.and_false])
    cases c with
    | true =>
      repeat (first | (refine wpL_quiet (by rfl) (fun K hK => ?_); go_big_quiet_op; refine hK _ ?_; clear hK K) | (refine wpL_skip (by rfl) ?_; simp only [Act.put, List.setIfInBounds_toArray, List.set_cons_zero, List.set_cons_succ]) | simp only [d0] | simp only [bne_self_eq_false] | simp only [empty_yes] | simp only [dl] | simp only [d00] | simp only [Bool.not_true] | simp only [Bool.not_false] | simp only [Bool.or_false] | simp only [Bool.false_or] | simp only [Bool.true_or] | simp only [Bool.or_true] | simp only [Bool.false_and] | simp only [Bool.true_and] | simp only [Bool.and_true] | simp only [Bool.and_false])
      refine wpL_nil ?_
      exact hQ _ _ _ _ _ _ _ _ _ _ _ _ _ _ _ _ _ _ _ _ _ _ _ _ _ _ _ _ _ _ _ _ _ _ _ _ _ _ _ _ _ _ _ _ _ _ _ _ _ _ _ _ _ _ _ _ _ _ _ _ _ _ _ _ _ _ _ _ _ _ _ _ _ _ _ _ _ _ _ _ _ _ _ _ _ _ _ _
    | false =>
      repeat (first | (refine wpL_quiet (by rfl) (fun K hK => ?_); go_big_quiet_op; refine hK _ ?_; clear hK K) | (refine wpL_skip (by rfl) ?_; simp only [Act.put, List.setIfInBounds_toArray, List.set_cons_zero, List.set_cons_succ]) | simp only [d0] | simp only [bne_self_eq_false] | simp only [empty_yes] | simp only [dl] | simp only [d00] | simp only [Bool.not_true] | simp only [Bool.not_false] | simp only [Bool.or_false] | simp only [Bool.false_or] | simp only [Bool.true_or] | simp only [Bool.or_true] | simp only [Bool.false_and] | simp only [Bool.true_and] | simp only [Bool.and_true] | simp only [Bool.and_false])
      cases m with
      | true =>
        repeat (first | (refine wpL_quiet (by rfl) (fun K hK => ?_); go_big_quiet_op; refine hK _ ?_; clear hK K) | (refine wpL_skip (by rfl) ?_; simp only [Act.put, List.setIfInBounds_toArray, List.set_cons_zero, List.set_cons_succ]) | simp only [d0] | simp only [bne_self_eq_false] | simp only [empty_yes] | simp only [dl] | simp only [d00] | simp only [Bool.not_true] | simp only [Bool.not_false] | simp only [Bool.or_false] | simp only [Bool.false_or] | simp only [Bool.true_or] | simp only [Bool.or_true] | simp only [Bool.false_and] | simp only [Bool.true_and] | simp only [Bool.and_true] | simp only [Bool.and_false])
        refine wpL_nil ?_
        exact hQ _ _ _ _ _ _ _ _ _ _ _ _ _ _ _ _ _ _ _ _ _ _ _ _ _ _ _ _ _ _ _ _ _ _ _ _ _ _ _ _ _ _ _ _ _ _ _ _ _ _ _ _ _ _ _ _ _ _ _ _ _ _ _ _ _ _ _ _ _ _ _ _ _ _ _ _ _ _ _ _ _ _ _ _ _ _ _ _
      | false =>
        obtain ⟨rfl, rfl⟩ := H6.out rfl rfl
        repeat (first | (refine wpL_quiet (by rfl) (fun K hK => ?_); go_big_quiet_op; refine hK _ ?_; clear hK K) | (refine wpL_skip (by rfl) ?_; simp only [Act.put, List.setIfInBounds_toArray, List.set_cons_zero, List.set_cons_succ]) | simp only [d0] | simp only [bne_self_eq_false] | simp only [empty_yes] | simp only [dl] | simp only [d00] | simp only [Bool.not_true] | simp only [Bool.not_false] | simp only [Bool.or_false] | simp only [Bool.false_or] | simp only [Bool.true_or] | simp only [Bool.or_true] | simp only [Bool.false_and] | simp only [Bool.true_and] | simp only [Bool.and_true] | simp only [Bool.and_false])
        refine wpL_nil ?_
        exact hQ _ _ _ _ _ _ _ _ _ _ _ _ _ _ _ _ _ _ _ _ _ _ _ _ _ _ _ _ _ _ _ _ _ _ _ _ _ _ _ _ _ _ _ _ _ _ _ _ _ _ _ _ _ _ _ _ _ _ _ _ _ _ _ _ _ _ _ _ _ _ _ _ _ _ _ _ _ _ _ _ _ _ _ _ _ _ _ _
  | false =>
    obtain rfl := H5.out rfl
    repeat (first | (refine wpL_quiet (by rfl) (fun K hK => ?_); go_big_quiet_op; refine hK _ ?_; clear hK K) | (refine wpL_skip (by rfl) ?_; simp only [Act.put, List.setIfInBounds_toArray, List.set_cons_zero, List.set_cons_succ]) | simp only [d0] | simp only [bne_self_eq_false] | simp only [empty_yes] | simp only [dl] | simp only [d00] | simp only [Bool.not_true] | simp only [Bool.not_false] | simp only [Bool.or_false] | simp only [Bool.false_or] | simp only [Bool.true_or] | simp only [Bool.or_true] | simp only [Bool.false_and] | simp only [Bool.true_and] | simp only [Bool.and_true] | simp only [Bool.and_false])
    cases c with
    | true =>
      repeat (first | (refine wpL_quiet (by rfl) (fun K hK => ?_); go_big_quiet_op; refine hK _ ?_; clear hK K) | (refine wpL_skip (by rfl) ?_; simp only [Act.put, List.setIfInBounds_toArray, List.set_cons_zero, List.set_cons_succ]) | simp only [d0] | simp only [bne_self_eq_false] | simp only [empty_yes] | simp only [dl] | simp only [d00] | simp only [Bool.not_true] | simp only [Bool.not_false] | simp only [Bool.or_false] | simp only [Bool.false_or] | simp only [Bool.true_or] | simp only [Bool.or_true] | simp only [Bool.false_and] | simp only [Bool.true_and] | simp only [Bool.and_true] | simp only [Bool.and_false])
      refine wpL_nil ?_
      exact hQ _ _ _ _ _ _ _ _ _ _ _ _ _ _ _ _ _ _ _ _ _ _ _ _ _ _ _ _ _ _ _ _ _ _ _ _ _ _ _ _ _ _ _ _ _ _ _ _ _ _ _ _ _ _ _ _ _ _ _ _ _ _ _ _ _ _ _ _ _ _ _ _ _ _ _ _ _ _ _ _ _ _ _ _ _ _ _ _
    | false =>
      repeat (first | (refine wpL_quiet (by rfl) (fun K hK => ?_); go_big_quiet_op; refine hK _ ?_; clear hK K) | (refine wpL_skip (by rfl) ?_; simp only [Act.put, List.setIfInBounds_toArray, List.set_cons_zero, List.set_cons_succ]) | simp only [d0] | simp only [bne_self_eq_false] | simp only [empty_yes] | simp only [dl] | simp only [d00] | simp only [Bool.not_true] | simp only [Bool.not_false] | simp only [Bool.or_false] | simp only [Bool.false_or] | simp only [Bool.true_or] | simp only [Bool.or_true] | simp only [Bool.false_and] | simp only [Bool.true_and] | simp only [Bool.and_true] | simp only [Bool.and_false])
      cases m with
      | true =>
        repeat (first | (refine wpL_quiet (by rfl) (fun K hK => ?_); go_big_quiet_op; refine hK _ ?_; clear hK K) | (refine wpL_skip (by rfl) ?_; simp only [Act.put, List.setIfInBounds_toArray, List.set_cons_zero, List.set_cons_succ]) | simp only [d0] | simp only [bne_self_eq_false] | simp only [empty_yes] | simp only [dl] | simp only [d00] | simp only [Bool.not_true] | simp only [Bool.not_false] | simp only [Bool.or_false] | simp only [Bool.false_or] | simp only [Bool.true_or] | simp only [Bool.or_true] | simp only [Bool.false_and] | simp only [Bool.true_and] | simp only [Bool.and_true] | simp only [Bool.and_false])
        refine wpL_nil ?_
        exact hQ _ _ _ _ _ _ _ _ _ _ _ _ _ _ _ _ _ _ _ _ _ _ _ _ _ _ _ _ _ _ _ _ _ _ _ _ _ _ _ _ _ _ _ _ _ _ _ _ _ _ _ _ _ _ _ _ _ _ _ _ _ _ _ _ _ _ _ _ _ _ _ _ _ _ _ _ _ _ _ _ _ _ _ _ _ _ _ _
      | false =>
        obtain ⟨rfl, rfl⟩ := H6.out rfl rfl
        repeat (first | (refine wpL_quiet (by rfl) (fun K hK => ?_); go_big_quiet_op; refine hK _ ?_; clear hK K) | (refine wpL_skip (by rfl) ?_; simp only [Act.put, List.setIfInBounds_toArray, List.set_cons_zero, List.set_cons_succ]) | simp only [d0] | simp only [bne_self_eq_false] | simp only [empty_yes] | simp only [dl] | simp only [d00] | simp only [Bool.not_true] | simp only [Bool.not_false] | simp only [Bool.or_false] | simp only [Bool.false_or] | simp only [Bool.true_or] | simp only [Bool.or_true] | simp only [Bool.false_and] | simp only [Bool.true_and] | simp only [Bool.and_true] | simp only [Bool.and_false])
        refine wpL_nil ?_
        exact hQ _ _ _ _ _ _ _ _ _ _ _ _ _ _ _ _ _ _ _ _ _ _ _ _ _ _ _ _ _ _ _ _ _ _ _ _ _ _ _ _ _ _ _ _ _ _ _ _ _ _ _ _ _ _ _ _ _ _ _ _ _ _ _ _ _ _ _ _ _ _ _ _ _ _ _ _ _ _ _ _ _ _ _ _ _ _ _ _
end Go.Proofs.Ytnadhpajelkngaa
