/- The landed effect's editsOf: the edits of each ID, in a map. Conditions: at most 2^20 acts, that may be looked at. (Merged of 2 texts.) -/
import Derived.Test.YtjpjdkdbgjipnaaDoorV43
import Derived.Test.YtjpjdkdbgjipnaaDoorV40
import Derived.Deep.MidRow
import Derived.Test.YtjpjdkdbgjipnaaDoorV34
import Derived.Test.YtjpjdkdbgjipnaaDoorV47
import Derived.Carry
import Derived.Deep.CutRange
namespace Go.Proofs.YtjpjdkdbgjipnaaDoor
open Go.RowKit
namespace Sched
def okN (md : Region.Mode) (ops : Array Oper) : Sched Nat → Array Bool → Bool
 | done, listed => (Region.ready md ops listed).isEmpty
 | quiet i s, listed => (match ops[i]? with | some o => yy141 o | none => false) && (Region.ready md ops listed).contains i && Region.free md ops listed i && okN md ops s (listed.setIfInBounds i true)
 | one i s, listed => (Region.ready md ops listed == [i]) && okN md ops s (listed.setIfInBounds i true)
 | two i s j t, listed => (Region.ready md ops listed == [i, j]) && (s.depth == t.depth) && okN md ops s (listed.setIfInBounds i true) && okN md ops t (listed.setIfInBounds j true)
def walkK (P : Program) (R : Keep) (ops : Array Oper) (Q : Exit → Act → World → Prop) : Sched Oper → Act → World → Prop
 | done, a, w => Q .normal a w
 | quiet o s, a, w => if Region.wanted o (yielded ops a.tmps) = true then o.quiet P a (fun x => ∃ e : ExtK R w, x = e.val) (fun a' => walkK P R ops Q s a' w) else walkK P R ops Q s (a.put o.dst undef) w
 | one o s, a, w => if Region.wanted o (yielded ops a.tmps) = true then o.wp P a w (fun a' w' => R.r w w' ∧ walkK P R ops Q s a' w') Q else walkK P R ops Q s (a.put o.dst undef) w
 | two o s o' s', a, w => (if Region.wanted o (yielded ops a.tmps) = true then o.wp P a w (fun a' w' => R.r w w' ∧ walkK P R ops Q s a' w') Q else walkK P R ops Q s (a.put o.dst undef) w) ∧
   (if Region.wanted o' (yielded ops a.tmps) = true then o'.wp P a w (fun a' w' => R.r w w' ∧ walkK P R ops Q s' a' w') Q else walkK P R ops Q s' (a.put o'.dst undef) w)
section
variable {P : Program} {R : Keep} {ops : Array Oper} {Q : Exit → Act → World → Prop} {md : Region.Mode}
theorem yy160 {ops : List Oper} {i fuel : Nat} {s : Sched Nat} {listed : Array Bool} {a : Act} {w : World} (hi : i < ops.length)
  (ih : ∀ (a : Act) (w : World), walkK P R ops.toArray Q (picked ops s) a w → wpAnyH P md ops.toArray Q (fun x => R.r w x) fuel (listed.setIfInBounds i true) a w)
  (h : if Region.wanted ((ops[i]?).getD default) (yielded ops.toArray a.tmps) = true then ((ops[i]?).getD default).wp P a w (fun a' w' => R.r w w' ∧ walkK P R ops.toArray Q (picked ops s) a' w') Q
   else walkK P R ops.toArray Q (picked ops s) (a.put ((ops[i]?).getD default).dst undef) w) :
  wpOp P ops.toArray Q i (fun a' w' => R.r w w' ∧ wpAnyH P md ops.toArray Q (fun x => R.r w x) fuel (listed.setIfInBounds i true) a' w') a w := by
 have e : (ops[i]?).getD default = ops[i] := by simp [hi]
 have ho : ops.toArray[i]? = some ops[i] := by simp [hi]
 rw [e] at h
 unfold wpOp
 simp only [ho]
 split at h
 ·rename_i hw
  rw [if_pos hw]
  refine .inl (Oper.wp_mono (fun a' w' h' => ⟨h'.1, ?_⟩) h)
  exact yy114 (fun x hx => R.trans h'.1 hx) _ _ _ _ (ih _ _ h'.2)
 ·rename_i hw
  rw [if_neg hw]
  exact ⟨R.refl _, ih _ _ h⟩
theorem yy451 {ops : List Oper} (hs : Region.noSelect ops.toArray = true) (hQ : ∀ c a d v w, Q (.panic c) (Act.put a d v) w → Q (.panic c) a w) :
  ∀ (s : Sched Nat) (listed : Array Bool) (a : Act) (w : World), okN md ops.toArray s listed = true → under ops.length s = true → walkK P R ops.toArray Q (picked ops s) a w → wpAnyH P md ops.toArray Q (fun x => R.r w x) s.depth listed a w := by
 intro s
 induction s with
 | done =>
  intro listed a w hB _ h
  exact ⟨by simpa [okN] using hB, h⟩
 | quiet i s ih =>
  intro listed a w hB hu h
  simp only [under, Bool.and_eq_true, decide_eq_true_eq] at hu
  have e : (ops[i]?).getD default = ops[i] := by simp [hu.1]
  have ho : ops.toArray[i]? = some ops[i] := by simp [hu.1]
  simp only [okN, ho, Bool.and_eq_true] at hB
  obtain ⟨⟨⟨hk, hr⟩, hf⟩, hB'⟩ := hB
  simp only [picked, walkK, e] at h
  split at h
  ·rename_i hw
   obtain ⟨v, hv, hn⟩ := h
   refine wpAnyH_take ho hs hf hr (fun c a w h => hQ c a _ _ w h) (.inl ⟨hw, fun x hx => ?_⟩) (R.refl _) (ih _ _ _ hB' hu.2 hn)
   exact yy118 hk (hv x ⟨⟨x, hx⟩, rfl⟩)
  ·rename_i hw
   exact wpAnyH_take ho hs hf hr (fun c a w h => hQ c a _ _ w h) (.inr ⟨by simpa using hw, rfl⟩) (R.refl _) (ih _ _ _ hB' hu.2 h)
 | one i s ih =>
  intro listed a w hB hu h
  simp only [under, Bool.and_eq_true, decide_eq_true_eq] at hu
  simp only [okN, Bool.and_eq_true, beq_iff_eq] at hB
  simp only [picked, walkK] at h
  refine wpAnyH_all hB.1 (by simp) (fun j hj => ?_)
  obtain rfl : j = i := by simpa using hj
  exact yy160 hu.1 (fun a w h => ih _ _ _ hB.2 hu.2 h) h
 | two i s j t ihs iht =>
  intro listed a w hB hu h
  simp only [under, Bool.and_eq_true, decide_eq_true_eq] at hu
  simp only [okN, Bool.and_eq_true, beq_iff_eq] at hB
  simp only [picked, walkK] at h
  refine wpAnyH_all hB.1.1.1 (by simp) (fun k hk => ?_)
  rcases List.mem_cons.1 hk with rfl | hk
  ·exact yy160 hu.1.1 (fun a w h => ihs _ _ _ hB.1.2 hu.1.2 h) h.1
  ·obtain rfl : k = j := by simpa using hk
   refine yy160 hu.2.1 (fun a w h => ?_) h.2
   rw [hB.1.1.2]
   exact iht _ _ _ hB.2 hu.2.2 h
theorem yy533 (R : Keep) {id : Nat} {ops : List Oper} {a : Act} {w : World} (s : Sched Nat) (hm : P.follows .mixedOrders = true)
  (hs : (Region.noSelect ops.toArray && (s.depth == ops.toArray.size) && okN .any ops.toArray s (Array.replicate ops.toArray.size false) && under ops.length s) = true)
  (hQ : ∀ c a d v w, Q (.panic c) (Act.put a d v) w → Q (.panic c) a w) (h : walkK P R ops.toArray Q (picked ops s) a w.drew) : (Code.region id ops.toArray true).wp P Q a w := by
 simp only [Bool.and_eq_true, beq_iff_eq] at hs
 refine wp_region_held (S := fun x => R.r w.drew x) hm ?_
 have := yy451 (md := .any) hs.1.1.1 hQ s _ a w.drew hs.1.2 hs.2 h
 rw [hs.1.1.2] at this
 exact this
theorem yy750 {a : Act} {w : World} (h : Q .normal a w) : walkK P R ops Q .done a w := h
theorem yy715 {s : Sched Oper} {o : Oper} {a : Act} {w : World} (hw : Region.wanted o (yielded ops a.tmps) = true)
  (h : ∀ K : Act → Prop, (∀ a', walkK P R ops Q s a' w → K a') → o.quiet P a (fun x => ∃ e : ExtK R w, x = e.val) K) : walkK P R ops Q (.quiet o s) a w := by
 simp only [walkK]; rw [if_pos hw]; exact h _ fun _ h => h
theorem walkK_one {s : Sched Oper} {o : Oper} {a : Act} {w : World} (hw : Region.wanted o (yielded ops a.tmps) = true)
  (h : ∀ K : Act → World → Prop, (∀ a' w', R.r w w' → walkK P R ops Q s a' w' → K a' w') → o.wp P a w K Q) : walkK P R ops Q (.one o s) a w := by
 simp only [walkK]; rw [if_pos hw]; exact h _ fun _ _ h1 h2 => ⟨h1, h2⟩
theorem walkK_two {s t : Sched Oper} {o o' : Oper} {a : Act} {w : World} (h1 : walkK P R ops Q (.one o s) a w) (h2 : walkK P R ops Q (.one o' t) a w) : walkK P R ops Q (.two o s o' t) a w := by
 simp only [walkK] at h1 h2 ⊢; exact ⟨h1, h2⟩
end
attribute [irreducible] walkK
end Sched
end Go.Proofs.YtjpjdkdbgjipnaaDoor
namespace Go.Proofs.YtjpjdkdbgjipnaaDoor
open Go.RowKit Go.Deep
theorem yy302 {w w' : World} {o : Oper} {a : Act} {K : Act → World → Prop} {Q : Exit → Act → World → Prop} (s x : Operand) (t : TypeId)
  (ho : o.op = .call { callee := .builtin .append, args := #[s, x], argTypes := #[t, t] }) (u v r : Value) (hs : a.eval s = u) (hx : a.eval x = v)
  (hrun : (Builtin.append_ #[t, t] o.type #[u, v]).run Tryd.prog w = .ok r w') (hK : K (a.put o.dst r) w') : o.wp Tryd.prog a w K Q := by
 unfold Oper.wp execOp
 simp only [ho, resolve, invoke, builtin, Sem.run_bind, Sem.run_pure, Result.andThen_ok, List.map_toArray, List.map_cons, List.map_nil, hs, hx, hrun]
 exact hK
def yy534 (w : World) (m : List ActV) (e : Ending) (w' : World) : Prop := ∃ B V n S D, e = .returned (.map (some B)) ∧ EdMap w' V B n S D m ∧ w.heap.size ≤ B ∧ Below w.heap.size w w'
def edS0 : Sched Nat := (.one 10 (.one 11 .done))
def edS : Sched Nat := (.quiet 0 (.quiet 1 (.quiet 2 (.quiet 3 (.quiet 4 (.quiet 5 (.quiet 7 (.quiet 8 (.two 6 (.one 9 edS0) 9 (.one 6 edS0))))))))))
set_option maxHeartbeats 8000000 in
set_option maxRecDepth 100000 in
theorem yy356 (A : Option Addr) (c : Nat) (m : List ActV) (hl : m.length ≤ 1048576) (hg : ∀ a ∈ m, ActH a) (w : World) (hA : ActsAt w A m) :
  Calls Tryd.prog 57 #[.slice A m.length c] w (yy534 w m) := by
 have HA := xh hA
 have HG := xh hg
 clear hA hg
 have hmm := @run_makeMap Tryd.prog
 have HNEW := xh (yy599 w)
 have HB0 := xh ((Below.refl w.heap.size w).alloc (Nat.le_refl _) (.map #[] 0))
 obtain ⟨g, HGG⟩ : ∃ g, Hid (w.heap.size = g) := ⟨_, xh rfl⟩
 rw [HGG.out] at HNEW HB0
 go_enter Tryd.func57, Tryd.ntmps57
 go_wp2
 rw [HGG.out]
 obtain ⟨W1, HW1⟩ : ∃ x, Hid (w.alloc (.map #[] 0) = x) := ⟨_, xh rfl⟩
 rw [HW1.out] at HNEW HB0 ⊢
 clear hmm
 go_loopw [9] (fun i wr => ∃ (k n : Nat) (S : Int → Option Addr × Nat) (D : DataW Value), k ≤ m.length ∧ i = .int .i64 k ∧ n ≤ k ∧ Hid (EdMap wr (g + 1) g n S D (m.take k)) ∧ Hid (Below g w wr)) (fun i _ => m.length - (intOf i).toNat)
 case atStart => exact ⟨0, 0, _, _, Nat.zero_le _, rfl, Nat.le_refl _, HNEW, HB0⟩
 case round =>
  obtain ⟨k, n, S, D, hk, rfl, hn, HE, HBE⟩ := hrel
  by_cases hlt : k < m.length
  ·have hltI : (k : Int) < (m.length : Int) := by omega
   have hAw := HA.out.below (by rw [HGG.out]; exact HBE.out)
   obtain ⟨b1, o1, rfl, _⟩ := hAw.form (by omega)
   obtain ⟨x0, x1, x2, x3, x4, x5⟩ := hAw.at_ hlt
   have HAH := xh (HG.out _ (List.getElem_mem hlt))
   have HTK : Hid (m.take (k + 1) = m.take k ++ [m[k]]) := xh (List.take_succ_eq_append_getElem hlt)
   have HTL : Hid ((m.take k).length ≤ 1048576) := xh (by rw [List.length_take]; omega)
   clear hAw
   generalize m[k] = a at x0 x1 x2 x3 x4 x5 HAH HTK
   generalize m.take k = P at HE HTK HTL
   have HRL : Hid (∀ i q, (Value.slice (S i).1 (rowsE P i).length (S i).2).ownBlock = some q → q < wr.heap.size) := xh (fun i q h => ((HE.out.row i).lt q h).2)
   obtain ⟨ak, ai, ap, an, ad, aA, aC, ao⟩ := a
   simp only at x0 x1 x2 x3 x4 x5
   obtain ⟨h, HH⟩ : ∃ h, Hid (wr.heap.size = h) := ⟨_, xh rfl⟩
   have hrow := yy62 wr 46 (.int .i64 ak) (.int .i64 ai) (.int .i64 ap) (.string (bstr an)) (.bool ad) (.slice aA ao.length aC)
   rw [HH.out] at hrow
   have HE1 := xh (HE.out.alloc (.cells #[.int .i64 ak, .int .i64 ai, .int .i64 ap, .string (bstr an), .bool ad, .slice aA ao.length aC] 46))
   have HB1 : Hid (Below g w (wr.alloc (.cells #[.int .i64 ak, .int .i64 ai, .int .i64 ap, .string (bstr an), .bool ad, .slice aA ao.length aC] 46))) := xh (HBE.out.trans ((Below.refl _ _).alloc (by rw [← HGG.out]; exact HBE.out.size) _))
   obtain ⟨Wx, HWx⟩ : ∃ x, Hid (wr.alloc (.cells #[.int .i64 ak, .int .i64 ai, .int .i64 ap, .string (bstr an), .bool ad, .slice aA ao.length aC] 46) = x) := ⟨_, xh rfl⟩
   rw [HWx.out] at hrow HE1 HB1
   have HROW := xh hrow
   have q0 : (wr.alloc (.cells #[.int .i64 ak, .int .i64 ai, .int .i64 ap, .string (bstr an), .bool ad, .slice aA ao.length aC] 46)).cell? ⟨wr.heap.size, 0, none⟩ = some (.int .i64 ak) := by rw [HWx.out, HH.out]; exact (yy11 hrow).1
   clear hrow
   have hn1 : n < 1099511627776 := by omega
   by_cases hk4 : ak = 4
   ·subst hk4
    have HFIT : Hid (Fit64 ai) := xh HAH.out.1.2.1
    have hb4 : ((4 : Int) == 4) = true := rfl
    go_upto_region 6 with fail
    rw [HWx.out, HH.out]
    clear x0 x1 x2 x3 x4 x5 q0 hb4
    obtain ⟨_, y1, _, _, _, y5⟩ := yy11 HROW.out
    have e1 : ∀ e : ExtK (yy18 [h]) Wx.drew, e.val.cell? ⟨h, 1, none⟩ = some (.int .i64 ai) := fun e => (cell_of_block (e.property.2 h (by simp)) _).trans y1
    have e5 : ∀ e : ExtK (yy18 [h]) Wx.drew, e.val.cell? ⟨h, 5, none⟩ = some (.slice aA ao.length aC) := fun e => (cell_of_block (e.property.2 h (by simp)) _).trans y5
    clear y1 y5
    refine Sched.yy533 (yy18 [h]) edS (by kernel_rfl) (by kernel_rfl) (fun _ _ d _ _ h => by cases d <;> exact h) ?_
    have hdb : Below Wx.heap.size Wx Wx.drew := (Below.refl _ _).drew
    replace HE1 := xh (HE1.out.below hdb)
    replace HB1 := xh HB1.out.drew
    replace HROW := xh HROW.out.drew
    have HSZ : Hid (Wx.drew.heap.size = h + 1) := xh (by rw [← HWx.out, ← HH.out]; show (wr.alloc _).heap.size = _; simp)
    clear hdb
    generalize World.drew _ = wd at HE1 HB1 HROW e1 e5 HSZ ⊢
    simp only [edS, Sched.picked, List.getElem?_cons_succ, List.getElem?_cons_zero, Option.getD_some]
    repeat (refine Sched.yy715 (by rfl) (fun K hK => ?_); go_big_quiet_op; refine hK _ ?_; clear hK K)
    clear e1 e5
    have HE2 := xh (HE1.out.alloc (.cells #[.slice aA ao.length aC] 40))
    have HBA : Hid (Below wd.heap.size wd (wd.alloc (.cells #[.slice aA ao.length aC] 40))) := xh ((Below.refl _ _).alloc (Nat.le_refl _) _)
    have hcl : (wd.alloc (.cells #[.slice aA ao.length aC] 40)).cell? ⟨wd.heap.size, 0, none⟩ = some (.slice aA ao.length aC) := by simp
    have HCL := xh hcl
    have hlk := yy354 HE1.out.own HFIT.out (HE1.out.at_ ai)
    have hlk2 := yy354 HE2.out.own HFIT.out (HE2.out.at_ ai)
    clear hcl
    refine Sched.walkK_two ?_ ?_
    ·refine Sched.walkK_one (by rfl) (fun K hK => ?_)
     go_simp
     refine hK _ _ ((yy18 [h]).refl _) ?_
     clear hK K hlk hlk2
     refine Sched.walkK_one (by rfl) (fun K hK => ?_)
     go_simp
     refine hK _ _ (yy125 HBA.out.size (HBA.out.block h (by have := HSZ.out; omega))) ?_
     clear hK K
     obtain ⟨Wy, HWy⟩ : ∃ x, Hid (wd.alloc (.cells #[.slice aA ao.length aC] 40) = x) := ⟨_, xh rfl⟩
     rw [HWy.out] at HE2 HBA HCL ⊢
     obtain ⟨A6, c6, w6, hap, hb6, hg6, w7, hst, hb7, hg7, S7, D7, hE7⟩ := HE2.out.push hn1 HTL.out (a := ⟨4, ai, ap, an, ad, aA, aC, ao⟩) rfl HFIT.out wd.heap.size HCL.out 58
     have hap2 : (Builtin.append_ #[58, 58] 58 #[.slice (S ai).1 (rowsE P ai).length (S ai).2, .slice (some ⟨wd.heap.size, 0, none⟩) 1 1]).run Tryd.prog Wy = .ok (.slice (some A6) ((rowsE P ai).length + 1) c6) w6 := hap
     have hst2 : (Instr.mapUpdate 107 (.map (some g)) (.int .i64 ai) (.slice (some A6) ((rowsE P ai).length + 1) c6)).run Tryd.prog w6 = .ok () w7 := hst
     have HST := xh hst2
     have HAP := xh hap2
     have HE7 := xh hE7
     have HBF : Hid (Below g w w7) := xh (((HB1.out.trans (HBA.out.mono (Nat.le_trans (by rw [HGG.out]; exact Nat.le_refl g) HB1.out.size))).trans (hb6.mono (Nat.le_succ g))).trans hb7)
     have HK6 : Hid ((yy18 [h]).r Wy w6) := xh (yy125 hg6.size (hg6.block h (by have := HBA.out.size; have := HSZ.out; omega) (fun e => by have h1 := HRL.out ai h e.symm; have h2 := HH.out; omega)))
     have HK7 : Hid ((yy18 [h]).r w6 w7) := xh (yy125 hg7.size (hg7.block h (by have := HBA.out.size; have := HSZ.out; have := hg6.size; omega) (fun e => by injection e with e; have h1 := HE2.out.up; have h2 := HH.out; have h3 := HE.out.up; omega)))
     clear hap hap2 hst2 hst hE7 hb6 hg6 hb7 hg7
     simp only [edS0, Sched.picked, List.getElem?_cons_succ, List.getElem?_cons_zero, Option.getD_some]
     refine Sched.walkK_one (by rfl) (fun K hK => ?_)
     refine yy302 (.tmp 22) (.tmp 25) 58 rfl (.slice (S ai).1 (rowsE P ai).length (S ai).2) (.slice (some ⟨wd.heap.size, 0, none⟩) 1 1) (.slice (some A6) ((rowsE P ai).length + 1) c6) rfl rfl HAP.out ?_
     refine hK _ _ HK6.out ?_
     clear hK K
     try simp only [Act.put, xsa, xsz, xss]
     refine Sched.walkK_one (by rfl) (fun K hK => ?_)
     have hst := HST.out
     go_simp
     refine hK _ _ HK7.out ?_
     clear hK K hst
     refine Sched.yy750 ?_
     go_wp2
     go_roundw
     case rel => exact ⟨k + 1, n + 1, S7, D7, by omega, by go_num, by omega, by rw [HTK.out]; exact HE7, HBF⟩
     case measure => simp [intOf]; omega
    ·refine Sched.walkK_one (by rfl) (fun K hK => ?_)
     go_simp
     refine hK _ _ (yy125 HBA.out.size (HBA.out.block h (by have := HSZ.out; omega))) ?_
     clear hK K
     refine Sched.walkK_one (by rfl) (fun K hK => ?_)
     go_simp
     refine hK _ _ ((yy18 [h]).refl _) ?_
     clear hK K hlk hlk2
     obtain ⟨Wy, HWy⟩ : ∃ x, Hid (wd.alloc (.cells #[.slice aA ao.length aC] 40) = x) := ⟨_, xh rfl⟩
     rw [HWy.out] at HE2 HBA HCL ⊢
     obtain ⟨A6, c6, w6, hap, hb6, hg6, w7, hst, hb7, hg7, S7, D7, hE7⟩ := HE2.out.push hn1 HTL.out (a := ⟨4, ai, ap, an, ad, aA, aC, ao⟩) rfl HFIT.out wd.heap.size HCL.out 58
     have hap2 : (Builtin.append_ #[58, 58] 58 #[.slice (S ai).1 (rowsE P ai).length (S ai).2, .slice (some ⟨wd.heap.size, 0, none⟩) 1 1]).run Tryd.prog Wy = .ok (.slice (some A6) ((rowsE P ai).length + 1) c6) w6 := hap
     have hst2 : (Instr.mapUpdate 107 (.map (some g)) (.int .i64 ai) (.slice (some A6) ((rowsE P ai).length + 1) c6)).run Tryd.prog w6 = .ok () w7 := hst
     have HST := xh hst2
     have HAP := xh hap2
     have HE7 := xh hE7
     have HBF : Hid (Below g w w7) := xh (((HB1.out.trans (HBA.out.mono (Nat.le_trans (by rw [HGG.out]; exact Nat.le_refl g) HB1.out.size))).trans (hb6.mono (Nat.le_succ g))).trans hb7)
     have HK6 : Hid ((yy18 [h]).r Wy w6) := xh (yy125 hg6.size (hg6.block h (by have := HBA.out.size; have := HSZ.out; omega) (fun e => by have h1 := HRL.out ai h e.symm; have h2 := HH.out; omega)))
     have HK7 : Hid ((yy18 [h]).r w6 w7) := xh (yy125 hg7.size (hg7.block h (by have := HBA.out.size; have := HSZ.out; have := hg6.size; omega) (fun e => by injection e with e; have h1 := HE2.out.up; have h2 := HH.out; have h3 := HE.out.up; omega)))
     clear hap hap2 hst2 hst hE7 hb6 hg6 hb7 hg7
     simp only [edS0, Sched.picked, List.getElem?_cons_succ, List.getElem?_cons_zero, Option.getD_some]
     refine Sched.walkK_one (by rfl) (fun K hK => ?_)
     refine yy302 (.tmp 22) (.tmp 25) 58 rfl (.slice (S ai).1 (rowsE P ai).length (S ai).2) (.slice (some ⟨wd.heap.size, 0, none⟩) 1 1) (.slice (some A6) ((rowsE P ai).length + 1) c6) rfl rfl HAP.out ?_
     refine hK _ _ HK6.out ?_
     clear hK K
     try simp only [Act.put, xsa, xsz, xss]
     refine Sched.walkK_one (by rfl) (fun K hK => ?_)
     have hst := HST.out
     go_simp
     refine hK _ _ HK7.out ?_
     clear hK K hst
     refine Sched.yy750 ?_
     go_wp2
     go_roundw
     case rel => exact ⟨k + 1, n + 1, S7, D7, by omega, by go_num, by omega, by rw [HTK.out]; exact HE7, HBF⟩
     case measure => simp [intOf]; omega
   ·have hb4 : (ak == 4) = false := xn hk4
    have HE7 : Hid (EdMap _ (g + 1) g n S D (m.take (k + 1))) := xh (by rw [HTK.out]; exact HE1.out.skip hk4)
    clear hk4
    go_wp2
    rw [HWx.out]
    go_roundw
    case rel => exact ⟨k + 1, n, S, D, by omega, by go_num, by omega, HE7, HB1⟩
    case measure => simp [intOf]; omega
  ·obtain rfl : k = m.length := by omega
   have hltI : ¬ (m.length : Int) < (m.length : Int) := by omega
   rw [List.take_length] at HE
   go_wp2
   go_ret
   exact ⟨g, g + 1, n, S, D, rfl, HE.out, by rw [HGG.out]; exact Nat.le_refl _, by rw [HGG.out]; exact HBE.out⟩
end Go.Proofs.YtjpjdkdbgjipnaaDoor
