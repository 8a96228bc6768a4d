/- A statement whose order Go leaves open, where now and then two operations may come up that matter to each other: the walk parts there, and goes on in both ways; what is taken ahead yields the same in every world that keeps what the relation says. No condition beyond those that each lemma states. -/
import Derived.Test.YtmedaimndaaiiaaMMono
import Derived.Deep.MidRow
/- A statement whose order Go leaves open, where now and then two operations may come up that matter to each other: the walk parts there, and goes on in both ways; what is taken ahead yields the same in every world that keeps what the relation says. No condition beyond those that each lemma states. -/
namespace Go.Proofs.Ytmedaimndaaiiaa
open Go.RowKit
namespace Sched
/-- What is asked of a schedule: as in Tree; nil checks may be taken ahead, too. -/
def okN (md : Region.Mode) (ops : Array Oper) : Sched Nat → Array Bool → Bool
  | done, listed => (Region.ready md ops listed).isEmpty
  | quiet i s, listed => (match ops[i]? with | some o => quietKindN o | none => false) && (Region.ready md ops listed).contains i && Region.free md ops listed i && okN md ops s (listed.setIfInBounds i true)
  | one i s, listed => (Region.ready md ops listed == [i]) && okN md ops s (listed.setIfInBounds i true)
  | two i s j t, listed => (Region.ready md ops listed == [i, j]) && (s.depth == t.depth) && okN md ops s (listed.setIfInBounds i true) && okN md ops t (listed.setIfInBounds j true)
/-- The walk in the schedule's order. -/
def walkK (P : Program) (R : Keep) (ops : Array Oper) (Q : Exit → Act → World → Prop) : Sched Oper → Act → World → Prop
  | done, a, w => Q .normal a w
  | quiet o s, a, w => if Region.wanted o (yielded ops a.tmps) = true then o.quiet P a (fun x => ∃ e : ExtK R w, x = e.val) (fun a' => walkK P R ops Q s a' w) else walkK P R ops Q s (a.put o.dst undef) w
  | one o s, a, w => if Region.wanted o (yielded ops a.tmps) = true then o.wp P a w (fun a' w' => R.r w w' ∧ walkK P R ops Q s a' w') Q else walkK P R ops Q s (a.put o.dst undef) w
  | two o s o' s', a, w => (if Region.wanted o (yielded ops a.tmps) = true then o.wp P a w (fun a' w' => R.r w w' ∧ walkK P R ops Q s a' w') Q else walkK P R ops Q s (a.put o.dst undef) w) ∧
      (if Region.wanted o' (yielded ops a.tmps) = true then o'.wp P a w (fun a' w' => R.r w w' ∧ walkK P R ops Q s' a' w') Q else walkK P R ops Q s' (a.put o'.dst undef) w)

section
variable {P : Program} {R : Keep} {ops : Array Oper} {Q : Exit → Act → World → Prop} {md : Region.Mode}
theorem stepK_sound {ops : List Oper} {i fuel : Nat} {s : Sched Nat} {listed : Array Bool} {a : Act} {w : World} (hi : i < ops.length)
    (ih : ∀ (a : Act) (w : World), walkK P R ops.toArray Q (picked ops s) a w → wpAnyH P md ops.toArray Q (fun x => R.r w x) fuel (listed.setIfInBounds i true) a w)
    (h : if Region.wanted ((ops[i]?).getD default) (yielded ops.toArray a.tmps) = true then ((ops[i]?).getD default).wp P a w (fun a' w' => R.r w w' ∧ walkK P R ops.toArray Q (picked ops s) a' w') Q
      else walkK P R ops.toArray Q (picked ops s) (a.put ((ops[i]?).getD default).dst undef) w) :
    wpOp P ops.toArray Q i (fun a' w' => R.r w w' ∧ wpAnyH P md ops.toArray Q (fun x => R.r w x) fuel (listed.setIfInBounds i true) a' w') a w := by
  have e : (ops[i]?).getD default = ops[i] := by simp [hi]
  have ho : ops.toArray[i]? = some ops[i] := by simp [hi]
  rw [e] at h
  unfold wpOp
  simp only [ho]
  split at h
  · rename_i hw
    rw [if_pos hw]
    refine .inl (Oper.wp_mono (fun a' w' h' => ⟨h'.1, ?_⟩) h)
    exact wpAnyH_mono (fun x hx => R.trans h'.1 hx) _ _ _ _ (ih _ _ h'.2)
  · rename_i hw
    rw [if_neg hw]
    exact ⟨R.refl _, ih _ _ h⟩

theorem walkK_sound {ops : List Oper} (hs : Region.noSelect ops.toArray = true) (hQ : ∀ c a d v w, Q (.panic c) (Act.put a d v) w → Q (.panic c) a w) :
    ∀ (s : Sched Nat) (listed : Array Bool) (a : Act) (w : World), okN md ops.toArray s listed = true → under ops.length s = true → walkK P R ops.toArray Q (picked ops s) a w → wpAnyH P md ops.toArray Q (fun x => R.r w x) s.depth listed a w := by
  intro s
  induction s with
  | done =>
    intro listed a w hB _ h
    exact ⟨by simpa [okN] using hB, h⟩
  | quiet i s ih =>
    intro listed a w hB hu h
    simp only [under, Bool.and_eq_true, decide_eq_true_eq] at hu
    have e : (ops[i]?).getD default = ops[i] := by simp [hu.1]
    have ho : ops.toArray[i]? = some ops[i] := by simp [hu.1]
    simp only [okN, ho, Bool.and_eq_true] at hB
    obtain ⟨⟨⟨hk, hr⟩, hf⟩, hB'⟩ := hB
    simp only [picked, walkK, e] at h
    split at h
    · rename_i hw
      obtain ⟨v, hv, hn⟩ := h
      refine wpAnyH_take ho hs hf hr (fun c a w h => hQ c a _ _ w h) (.inl ⟨hw, fun x hx => ?_⟩) (R.refl _) (ih _ _ _ hB' hu.2 hn)
      exact yields_of_quiet hk (hv x ⟨⟨x, hx⟩, rfl⟩)
    · rename_i hw
      exact wpAnyH_take ho hs hf hr (fun c a w h => hQ c a _ _ w h) (.inr ⟨by simpa using hw, rfl⟩) (R.refl _) (ih _ _ _ hB' hu.2 h)
  | one i s ih =>
    intro listed a w hB hu h
    simp only [under, Bool.and_eq_true, decide_eq_true_eq] at hu
    simp only [okN, Bool.and_eq_true, beq_iff_eq] at hB
    simp only [picked, walkK] at h
    refine wpAnyH_all hB.1 (by simp) (fun j hj => ?_)
    obtain rfl : j = i := by simpa using hj
    exact stepK_sound hu.1 (fun a w h => ih _ _ _ hB.2 hu.2 h) h
  | two i s j t ihs iht =>
    intro listed a w hB hu h
    simp only [under, Bool.and_eq_true, decide_eq_true_eq] at hu
    simp only [okN, Bool.and_eq_true, beq_iff_eq] at hB
    simp only [picked, walkK] at h
    refine wpAnyH_all hB.1.1.1 (by simp) (fun k hk => ?_)
    rcases List.mem_cons.1 hk with rfl | hk
    · exact stepK_sound hu.1.1 (fun a w h => ihs _ _ _ hB.1.2 hu.1.2 h) h.1
    · obtain rfl : k = j := by simpa using hk
      refine stepK_sound hu.2.1 (fun a w h => ?_) h.2
      rw [hB.1.1.2]
      exact iht _ _ _ hB.2 hu.2.2 h

/-- THE BEGINNING, for a region that is written out. -/
theorem wp_region_branch (R : Keep) {id : Nat} {ops : List Oper} {a : Act} {w : World} (s : Sched Nat) (hm : P.follows .mixedOrders = true)
    (hs : (Region.noSelect ops.toArray && (s.depth == ops.toArray.size) && okN .any ops.toArray s (Array.replicate ops.toArray.size false) && under ops.length s) = true)
    (hQ : ∀ c a d v w, Q (.panic c) (Act.put a d v) w → Q (.panic c) a w) (h : walkK P R ops.toArray Q (picked ops s) a w.drew) : (Code.region id ops.toArray true).wp P Q a w := by
  simp only [Bool.and_eq_true, beq_iff_eq] at hs
  refine wp_region_held (S := fun x => R.r w.drew x) hm ?_
  have := walkK_sound (md := .any) hs.1.1.1 hQ s _ a w.drew hs.1.2 hs.2 h
  rw [hs.1.1.2] at this
  exact this

theorem walkK_done {a : Act} {w : World} (h : Q .normal a w) : walkK P R ops Q .done a w := h
theorem walkK_skip_quiet {s : Sched Oper} {o : Oper} {a : Act} {w : World} (hw : Region.wanted o (yielded ops a.tmps) = false) (h : walkK P R ops Q s (a.put o.dst undef) w) : walkK P R ops Q (.quiet o s) a w := by
  simp only [walkK]; rw [if_neg (by rw [hw]; exact Bool.false_ne_true)]; exact h
theorem walkK_skip_one {s : Sched Oper} {o : Oper} {a : Act} {w : World} (hw : Region.wanted o (yielded ops a.tmps) = false) (h : walkK P R ops Q s (a.put o.dst undef) w) : walkK P R ops Q (.one o s) a w := by
  simp only [walkK]; rw [if_neg (by rw [hw]; exact Bool.false_ne_true)]; exact h
theorem walkK_quiet {s : Sched Oper} {o : Oper} {a : Act} {w : World} (hw : Region.wanted o (yielded ops a.tmps) = true)
    (h : ∀ K : Act → Prop, (∀ a', walkK P R ops Q s a' w → K a') → o.quiet P a (fun x => ∃ e : ExtK R w, x = e.val) K) : walkK P R ops Q (.quiet o s) a w := by
  simp only [walkK]; rw [if_pos hw]; exact h _ fun _ h => h
theorem walkK_one {s : Sched Oper} {o : Oper} {a : Act} {w : World} (hw : Region.wanted o (yielded ops a.tmps) = true)
    (h : ∀ K : Act → World → Prop, (∀ a' w', R.r w w' → walkK P R ops Q s a' w' → K a' w') → o.wp P a w K Q) : walkK P R ops Q (.one o s) a w := by
  simp only [walkK]; rw [if_pos hw]; exact h _ fun _ _ h1 h2 => ⟨h1, h2⟩
theorem walkK_two {s t : Sched Oper} {o o' : Oper} {a : Act} {w : World} (h1 : walkK P R ops Q (.one o s) a w) (h2 : walkK P R ops Q (.one o' t) a w) : walkK P R ops Q (.two o s o' t) a w := by
  simp only [walkK] at h1 h2 ⊢; exact ⟨h1, h2⟩
end
attribute [irreducible] walkK
end Sched
/-- A whole array, taken ahead out of a block that stays. -/
theorem quiet_load_mid {P : Program} {C : World → Prop} {K : Act → Prop} {op : Oper} {a : Act} (ty : TypeId) (x : Operand) (ho : op.op = .load ty x) (b o : Nat) (hx : a.eval x = .pointer (some ⟨b, o, none⟩)) (cs : List Value) (d : TypeDesc) (hc : ∀ w, C w → w.rangeAt b o cs)
    (hu : P.underlying ty = some d) (hd : d.isRow = true) (hi : (P.info? ty).map (·.size) = some cs.length) (h : K (a.put op.dst (.agg cs.toArray))) : op.quiet P a C K := by
  refine ⟨_, fun w hw => ?_, h⟩
  unfold Oper.quietAt execOp
  simp only [ho, hx, Instr.loadAt, Instr.sureAddr, Sem.run_bind, Sem.run_pure, Result.andThen_ok, run_loadVar_mid w b o ty cs d (hc w hw) hu hd hi]
  exact ⟨rfl, rfl⟩
end Go.Proofs.Ytmedaimndaaiiaa
