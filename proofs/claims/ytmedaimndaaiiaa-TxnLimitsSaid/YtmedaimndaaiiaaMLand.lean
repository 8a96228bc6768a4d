/- The landed txn's Do: a copy of the tree, each act on it, or none. Conditions: a tree; acts that may be looked at, in a slice with room for them. (Merged of 4 texts.) -/
import Derived.Test.YtmedaimndaaiiaaMTxm
import Derived.Test.YtmedaimndaaiiaaMAlk
import Derived.Test.YtmedaimndaaiiaaMTTreeSmall
import Derived.Test.YtmedaimndaaiiaaMMono
import Derived.BigQuiet
import Derived.Test.YtmedaimndaaiiaaMTOpLen
import Derived.Test.YtmedaimndaaiiaaMCells
import Derived.Test.YtmedaimndaaiiaaShelf
import Derived.Test.YtmedaimndaaiiaaMTOpCheck
import Derived.Test.YtmedaimndaaiiaaMTTreeEq
import Derived.Test.YtmedaimndaaiiaaMKit
import Derived.Test.YtmedaimndaaiiaaMSound
import Derived.Test.YtmedaimndaaiiaaMLab
/- The landed txn: whether an act may be. Conditions: acts that may be looked at. -/
namespace Go.Proofs.Ytmedaimndaaiiaa
open Go.RowKit Go.Deep

/-- Does it say where one stands? -/
def standB (a : ActV) : Bool := decide (a.kind = 1 ∨ a.kind = 3)
noncomputable def wholeB (a : ActV) : Bool := @decide (¬ ABad a) (Classical.propDecidable _)
theorem wholeB_no {a : ActV} (h : ABad a) : wholeB a = false := by unfold wholeB; exact @decide_eq_false _ (Classical.propDecidable _) (fun g => g h)
theorem wholeB_yes {a : ActV} (h : ¬ ABad a) : wholeB a = true := by unfold wholeB; exact @decide_eq_true _ (Classical.propDecidable _) h

set_option maxRecDepth 100000 in
theorem standing_any (a : ActV) (w : World) :
    Calls Try.prog 22 #[.agg (actCells a).toArray] w fun e w' => e = .returned (.bool (standB a)) ∧ Below w.heap.size w w' := by
  obtain ⟨k, i, p, n, d, A, c, o⟩ := a
  unfold standB actCells
  simp only
  by_cases h1 : k = 1
  · subst h1
    rw [show decide ((1 : Int) = 1 ∨ (1 : Int) = 3) = true from rfl]
    go_enter Try.func22, Try.ntmps22
    go_wp2
    go_ret
    exact ⟨rfl, (Below.refl _ _).alloc (Nat.le_refl _) _⟩
  by_cases h3 : k = 3
  · subst h3
    rw [show decide ((3 : Int) = 1 ∨ (3 : Int) = 3) = true from rfl]
    go_enter Try.func22, Try.ntmps22
    go_wp2
    go_ret
    exact ⟨rfl, (Below.refl _ _).alloc (Nat.le_refl _) _⟩
  · rw [decide_eq_false (by omega)]
    have g1 : (k == 1) = false := beq_eq_false_iff_ne.2 h1
    have g3 : (k == 3) = false := beq_eq_false_iff_ne.2 h3
    clear h1 h3
    go_enter Try.func22, Try.ntmps22
    go_wp2
    go_ret
    exact ⟨rfl, (Below.refl _ _).alloc (Nat.le_refl _) _⟩

set_option maxHeartbeats 8000000 in
set_option maxRecDepth 100000 in
theorem whole_any (a : ActV) (ha : a.Good) (w : World) (hA : CompsAt w a.opsA a.ops) :
    Calls Try.prog 12 #[.agg (actCells a).toArray] w fun e w' => e = .returned (.bool (wholeB a)) ∧ Below w.heap.size w w' := by
  have GM := Lib.hid (fun w => named_any a w)
  have GL := Lib.hid (fun (w' : World) (h : Below w.heap.size w w') => alike_any a (aPlain a) ha (Good.plain ha) w' (hA.below h) (comps_plain (hA.below h)))
  have GT := Lib.hid (fun w => standing_any a w)
  have GN := Lib.hid (fun w => name_any a.name ha.2.2.2.1.1 (by have := ha.2.2.2.1.2; unfold maxLen at *; omega) w)
  obtain ⟨T, HT⟩ : ∃ T, Hid (wholeB a = T) := ⟨_, Lib.hid rfl⟩
  rw [HT.out]
  have HBAD : Hid (ABad a → T = false) := Lib.hid (fun h => by rw [← HT.out]; exact wholeB_no h)
  have HGOOD : Hid (¬ ABad a → T = true) := Lib.hid (fun h => by rw [← HT.out]; exact wholeB_yes h)
  have HSM : Hid (sameA a (aPlain a) = false → ABad a) := Lib.hid (fun h => .inr (.inr (.inl fun e => by rw [sameA_yes e] at h; cases h)))
  have HSY : Hid (sameA a (aPlain a) = true → aKey a = aKey (aPlain a)) := Lib.hid (fun h => by
    by_cases g : aKey a = aKey (aPlain a)
    · exact g
    · rw [sameA_no g] at h; cases h)
  clear ha hA
  obtain ⟨sm, HSV⟩ : ∃ sm, Hid (sameA a (aPlain a) = sm) := ⟨_, Lib.hid rfl⟩
  obtain ⟨b, HPB⟩ : ∃ b, Hid (aPlain a = b) := ⟨_, Lib.hid rfl⟩
  rw [HSV.out] at GL HSM HSY
  rw [HPB.out] at GM GL
  obtain ⟨st, HST⟩ : ∃ st, Hid (standB a = st) := ⟨_, Lib.hid rfl⟩
  rw [HST.out] at GT
  obtain ⟨nm, HNM⟩ : ∃ nm, Hid (rName a.name = nm) := ⟨_, Lib.hid rfl⟩
  rw [HNM.out] at GN
  have HEND : Hid (1 ≤ a.kind ∧ a.kind ≤ 4 → sm = true → 1 ≤ a.id ∧ a.id ≤ 1099511627776 → 0 ≤ a.parent ∧ a.parent ≤ 1099511627776 → T = (!st || nm)) := Lib.hid (fun h1 h2 h3 h4 => by
    by_cases g : (a.kind = 1 ∨ a.kind = 3) ∧ rName a.name = false
    · rw [HBAD.out (.inr (.inr (.inr (.inr (.inr (.inr (.inr g)))))))]
      rw [← HST.out, ← HNM.out, g.2, standB, decide_eq_true g.1]
      rfl
    · rw [HGOOD.out (by
        rintro (h | h | h | h | h | h | h | h)
        · omega
        · omega
        · exact h (HSY.out h2)
        · omega
        · omega
        · omega
        · omega
        · exact g h)]
      rw [← HST.out, ← HNM.out, standB]
      by_cases k : a.kind = 1 ∨ a.kind = 3
      · have : rName a.name = true := by
          cases hn : rName a.name with
          | true => rfl
          | false => exact absurd ⟨k, hn⟩ g
        rw [this, decide_eq_true k]
        rfl
      · rw [decide_eq_false k]
        rfl)
  have HIB : Hid (a.id < 1 → T = false) := Lib.hid (fun h => HBAD.out (.inr (.inr (.inr (.inl h)))))
  have HIC : Hid (1099511627776 < a.id → T = false) := Lib.hid (fun h => HBAD.out (.inr (.inr (.inr (.inr (.inl h))))))
  have HPL : Hid (a.parent < 0 → T = false) := Lib.hid (fun h => HBAD.out (.inr (.inr (.inr (.inr (.inr (.inl h)))))))
  have HPU : Hid (1099511627776 < a.parent → T = false) := Lib.hid (fun h => HBAD.out (.inr (.inr (.inr (.inr (.inr (.inr (.inl h))))))))
  have HKL : Hid (a.kind < 1 → T = false) := Lib.hid (fun h => HBAD.out (.inl h))
  have HKU : Hid (4 < a.kind → T = false) := Lib.hid (fun h => HBAD.out (.inr (.inl h)))
  have HSF : Hid (sm = false → T = false) := Lib.hid (fun h => HBAD.out (HSM.out h))
  clear HBAD HGOOD HSM HSY HSV HPB HST HNM HT
  unfold actCells at GM GL GT ⊢
  obtain ⟨ak, ai, ap, an, ad, aA, aC, ao⟩ := a
  simp only at GM GL GT GN HEND HIB HIC HPL HPU HKL HKU HSF ⊢
  go_enter Try.func12, Try.ntmps12
  go_upto_region 1 with fail
  obtain ⟨wn, HWN⟩ : ∃ x, Hid (w.alloc (.cells #[.int .i64 ak, .int .i64 ai, .int .i64 ap, .string (bstr an), .bool ad, .slice aA ao.length aC] 26) = x) := ⟨_, Lib.hid rfl⟩
  rw [HWN.out]
  have HCELL : Hid (∀ (f : Nat) (v : Value), (actCells ⟨ak, ai, ap, an, ad, aA, aC, ao⟩)[f]? = some v → ∀ X : World, Below wn.drew.heap.size wn.drew X → X.cell? ⟨w.heap.size, f, none⟩ = some v) := Lib.hid (fun f v hf X h => by
    have e : wn.drew.cell? ⟨w.heap.size, f, none⟩ = some v := by
      show wn.cell? _ = _
      rw [← HWN.out, cell_of_row _ _ _ _ _ _ (heap_alloc_new w _)]
      simpa [actCells] using hf
    exact (h.cell (World.block_lt_of_cell? _ _ e)).trans e)
  have HBN : Hid (Below w.heap.size w wn.drew) := Lib.hid (by
    rw [← HWN.out]
    exact Below.drew ((Below.refl _ _).alloc (Nat.le_refl _) _))
  by_cases i1 : ak < 1
  · have HF := Lib.hid (HKL.out i1)
    have d1 : decide (ak < 1) = true := decide_eq_true i1
    have HV0 : Hid (Below wn.drew.heap.size wn.drew wn.drew) := Lib.hid (Below.refl _ _)
    refine wp_region_lit [(0, true), (1, true), (2, true), (3, true), (4, true), (5, true), (6, true), (7, true), (8, true), (9, true), (10, true), (11, false), (12, false), (13, true), (14, true), (15, true)] (by kernel_rfl) (by kernel_rfl) (fun _ _ d _ _ h => by cases d <;> exact h) ?_
    simp only [picked, List.map_cons, List.map_nil, List.getElem?_cons_succ, List.getElem?_cons_zero, Option.getD_some]
    have e0 := fun e : Ext wn.drew => HCELL.out 0 _ rfl e.val (HV0.out.trans (e.property.mono HV0.out.size))
    have e1 := fun e : Ext wn.drew => HCELL.out 1 _ rfl e.val (HV0.out.trans (e.property.mono HV0.out.size))
    have e2 := fun e : Ext wn.drew => HCELL.out 2 _ rfl e.val (HV0.out.trans (e.property.mono HV0.out.size))
    have e3 := fun e : Ext wn.drew => HCELL.out 3 _ rfl e.val (HV0.out.trans (e.property.mono HV0.out.size))
    have e4 := fun e : Ext wn.drew => HCELL.out 4 _ rfl e.val (HV0.out.trans (e.property.mono HV0.out.size))
    have e5 := fun e : Ext wn.drew => HCELL.out 5 _ rfl e.val (HV0.out.trans (e.property.mono HV0.out.size))
    repeat (first | (refine wpL_quiet (by rfl) (fun K hK => ?_); go_big_quiet_op; refine hK _ ?_; clear hK K) | (refine wpL_skip (by rfl) ?_; simp only [Act.put, List.setIfInBounds_toArray, List.set_cons_zero, List.set_cons_succ]) | (simp only [d1, Bool.not_true, Bool.not_false, Bool.or_false, Bool.false_or, Bool.true_or, Bool.or_true, Bool.false_and, Bool.true_and, Bool.and_true, Bool.and_false]))
    refine wpL_nil ?_
    go_wp2
    go_ret
    exact ⟨by rw [HF.out]; rfl, HBN.out⟩
  have d1 : decide (ak < 1) = false := decide_eq_false i1
  by_cases i2 : 4 < ak
  · have HF := Lib.hid (HKU.out i2)
    have d2 : decide (4 < ak) = true := decide_eq_true i2
    have HV0 : Hid (Below wn.drew.heap.size wn.drew wn.drew) := Lib.hid (Below.refl _ _)
    refine wp_region_lit [(0, true), (1, true), (2, true), (3, true), (4, true), (5, true), (6, true), (7, true), (8, true), (9, true), (10, true), (11, false), (12, false), (13, true), (14, true), (15, true)] (by kernel_rfl) (by kernel_rfl) (fun _ _ d _ _ h => by cases d <;> exact h) ?_
    simp only [picked, List.map_cons, List.map_nil, List.getElem?_cons_succ, List.getElem?_cons_zero, Option.getD_some]
    have e0 := fun e : Ext wn.drew => HCELL.out 0 _ rfl e.val (HV0.out.trans (e.property.mono HV0.out.size))
    have e1 := fun e : Ext wn.drew => HCELL.out 1 _ rfl e.val (HV0.out.trans (e.property.mono HV0.out.size))
    have e2 := fun e : Ext wn.drew => HCELL.out 2 _ rfl e.val (HV0.out.trans (e.property.mono HV0.out.size))
    have e3 := fun e : Ext wn.drew => HCELL.out 3 _ rfl e.val (HV0.out.trans (e.property.mono HV0.out.size))
    have e4 := fun e : Ext wn.drew => HCELL.out 4 _ rfl e.val (HV0.out.trans (e.property.mono HV0.out.size))
    have e5 := fun e : Ext wn.drew => HCELL.out 5 _ rfl e.val (HV0.out.trans (e.property.mono HV0.out.size))
    repeat (first | (refine wpL_quiet (by rfl) (fun K hK => ?_); go_big_quiet_op; refine hK _ ?_; clear hK K) | (refine wpL_skip (by rfl) ?_; simp only [Act.put, List.setIfInBounds_toArray, List.set_cons_zero, List.set_cons_succ]) | (simp only [d1, d2, Bool.not_true, Bool.not_false, Bool.or_false, Bool.false_or, Bool.true_or, Bool.or_true, Bool.false_and, Bool.true_and, Bool.and_true, Bool.and_false]))
    refine wpL_nil ?_
    go_wp2
    go_ret
    exact ⟨by rw [HF.out]; rfl, HBN.out⟩
  have d2 : decide (4 < ak) = false := decide_eq_false i2
  have HV0 : Hid (Below wn.drew.heap.size wn.drew wn.drew) := Lib.hid (Below.refl _ _)
  refine wp_region_lit [(0, true), (1, true), (2, true), (3, true), (4, true), (5, true), (6, true), (7, true), (8, true), (9, true), (10, true), (11, false), (12, false), (13, true), (14, true), (15, true)] (by kernel_rfl) (by kernel_rfl) (fun _ _ d _ _ h => by cases d <;> exact h) ?_
  simp only [picked, List.map_cons, List.map_nil, List.getElem?_cons_succ, List.getElem?_cons_zero, Option.getD_some]
  have e0 := fun e : Ext wn.drew => HCELL.out 0 _ rfl e.val (HV0.out.trans (e.property.mono HV0.out.size))
  have e1 := fun e : Ext wn.drew => HCELL.out 1 _ rfl e.val (HV0.out.trans (e.property.mono HV0.out.size))
  have e2 := fun e : Ext wn.drew => HCELL.out 2 _ rfl e.val (HV0.out.trans (e.property.mono HV0.out.size))
  have e3 := fun e : Ext wn.drew => HCELL.out 3 _ rfl e.val (HV0.out.trans (e.property.mono HV0.out.size))
  have e4 := fun e : Ext wn.drew => HCELL.out 4 _ rfl e.val (HV0.out.trans (e.property.mono HV0.out.size))
  have e5 := fun e : Ext wn.drew => HCELL.out 5 _ rfl e.val (HV0.out.trans (e.property.mono HV0.out.size))
  repeat (first | (refine wpL_quiet (by rfl) (fun K hK => ?_); go_big_quiet_op; refine hK _ ?_; clear hK K) | (refine wpL_skip (by rfl) ?_; simp only [Act.put, List.setIfInBounds_toArray, List.set_cons_zero, List.set_cons_succ]) | (simp only [d1, d2, Bool.not_true, Bool.not_false, Bool.or_false, Bool.false_or, Bool.true_or, Bool.or_true, Bool.false_and, Bool.true_and, Bool.and_true, Bool.and_false]))
  refine wpL_call (by rfl) (fun K hK => ?_)
  go_simp
  refine (GM.out _).mono ?_
  rintro e v1 ⟨rfl, hb1⟩
  have HV1 := Lib.hid (HV0.out.trans (hb1.mono HV0.out.size))
  refine hK _ _ hb1 ?_
  clear hK K hb1
  refine wpL_call (by rfl) (fun K hK => ?_)
  go_simp
  refine (GL.out _ (HBN.out.trans (HV1.out.mono HBN.out.size))).mono ?_
  rintro e v2 ⟨rfl, hb2⟩
  have HV2 := Lib.hid (HV1.out.trans (hb2.mono HV1.out.size))
  refine hK _ _ hb2 ?_
  clear hK K hb2 e0 e1 e2 e3 e4 e5
  cases sm with
  | false =>
    have HF := Lib.hid (HSF.out rfl)
    repeat (first | (refine wpL_quiet (by rfl) (fun K hK => ?_); go_big_quiet_op; refine hK _ ?_; clear hK K) | (refine wpL_skip (by rfl) ?_; simp only [Act.put, List.setIfInBounds_toArray, List.set_cons_zero, List.set_cons_succ]) | (simp only [d1, d2, Bool.not_true, Bool.not_false, Bool.or_false, Bool.false_or, Bool.true_or, Bool.or_true, Bool.false_and, Bool.true_and, Bool.and_true, Bool.and_false]))
    refine wpL_nil ?_
    go_wp2
    go_ret
    exact ⟨by rw [HF.out]; rfl, HBN.out.trans (HV2.out.mono HBN.out.size)⟩
  | true =>
    repeat (first | (refine wpL_quiet (by rfl) (fun K hK => ?_); go_big_quiet_op; refine hK _ ?_; clear hK K) | (refine wpL_skip (by rfl) ?_; simp only [Act.put, List.setIfInBounds_toArray, List.set_cons_zero, List.set_cons_succ]) | (simp only [d1, d2, Bool.not_true, Bool.not_false, Bool.or_false, Bool.false_or, Bool.true_or, Bool.or_true, Bool.false_and, Bool.true_and, Bool.and_true, Bool.and_false]))
    refine wpL_nil ?_
    have c1 := HCELL.out 1 _ rfl _ HV2.out
    have c2 := HCELL.out 2 _ rfl _ HV2.out
    have HB2 := Lib.hid (HBN.out.trans (HV2.out.mono HBN.out.size))
    have HCELL2 : Hid (∀ (f : Nat) (v : Value), (actCells ⟨ak, ai, ap, an, ad, aA, aC, ao⟩)[f]? = some v → ∀ X : World, Below v2.heap.size v2 X → X.cell? ⟨w.heap.size, f, none⟩ = some v) := Lib.hid (fun f v hf X h => HCELL.out f v hf X (HV2.out.trans (h.mono HV2.out.size)))
    have c0 := HCELL2.out 0 _ rfl _ (Below.refl _ _)
    have c3 := HCELL2.out 3 _ rfl _ (Below.refl _ _)
    have c4 := HCELL2.out 4 _ rfl _ (Below.refl _ _)
    have c5 := HCELL2.out 5 _ rfl _ (Below.refl _ _)
    clear HCELL HV0 HV1 HV2 HBN HWN d1 d2 GM GL
    by_cases j1 : ai < 1
    · have HF := Lib.hid (HIB.out j1)
      go_wp2
      go_ret
      exact ⟨by rw [HF.out]; rfl, HB2.out⟩
    by_cases j2 : 1099511627776 < ai
    · have HF := Lib.hid (HIC.out j2)
      go_wp2
      go_ret
      exact ⟨by rw [HF.out]; rfl, HB2.out⟩
    by_cases j3 : ap < 0
    · have HF := Lib.hid (HPL.out j3)
      go_wp2
      go_ret
      exact ⟨by rw [HF.out]; rfl, HB2.out⟩
    by_cases j4 : 1099511627776 < ap
    · have HF := Lib.hid (HPU.out j4)
      go_wp2
      go_ret
      exact ⟨by rw [HF.out]; rfl, HB2.out⟩
    have HF := Lib.hid (HEND.out (by omega) rfl (by omega) (by omega))
    clear HEND HIB HIC HPL HPU HKL HKU HSF i1 i2
    go_wp2_with fail
    refine (GT.out _).mono ?_
    rintro e v3 ⟨rfl, hb3⟩
    have HB3 := Lib.hid (HB2.out.trans (hb3.mono HB2.out.size))
    have c3 := HCELL2.out 3 _ rfl _ hb3
    clear c0 c1 c2 c4 c5
    cases st with
    | false =>
      go_wp2
      go_ret
      exact ⟨by rw [HF.out]; rfl, HB3.out⟩
    | true =>
      go_wp2_with fail
      refine (GN.out _).mono ?_
      rintro e v4 ⟨rfl, hb4⟩
      have HB4 := Lib.hid (HB3.out.trans (hb4.mono HB3.out.size))
      go_wp2
      go_ret
      exact ⟨by rw [HF.out]; simp, HB4.out⟩
end Go.Proofs.Ytmedaimndaaiiaa

/- The landed txn: whether there is an edit of one already, and how much is put in. Conditions: acts that may be looked at. -/
namespace Go.Proofs.Ytmedaimndaaiiaa
open Go.RowKit Go.Deep

/-- Is it an edit of that one? -/
def edB (id : Int) (y : ActV) : Bool := decide (y.kind = 4 ∧ y.id = id)
set_option maxRecDepth 100000 in
theorem editCmp_any (b : Nat) (id : Int) (y : ActV) (w : World) (hb : b < w.heap.size) (hc : w.cell? ⟨b, 0, none⟩ = some (.int .i64 id)) :
    Calls Try.prog 28 #[.agg (actCells y).toArray, .pointer (some ⟨b, 0, none⟩)] w fun e w' => e = .returned (.bool (edB id y)) ∧ Below w.heap.size w w' := by
  have HB := Lib.hid hb
  obtain ⟨k, i, p, n, d, A, c, o⟩ := y
  unfold actCells edB
  simp only
  have hc2 : (w.alloc (.cells #[.int .i64 k, .int .i64 i, .int .i64 p, .string (bstr n), .bool d, .slice A o.length c] 26)).cell? ⟨b, 0, none⟩ = some (.int .i64 id) := (((Below.refl w.heap.size w).alloc (Nat.le_refl _) _).cell (p := ⟨b, 0, none⟩) hb).trans hc
  clear hc hb
  by_cases h : k = 4
  · subst h
    by_cases g : i = id
    · subst g
      rw [decide_eq_true ⟨rfl, rfl⟩]
      go_enter Try.func28, Try.ntmps28
      go_wp2
      go_ret
      exact ⟨rfl, (Below.refl _ _).alloc (Nat.le_refl _) _⟩
    · have e : (i == id) = false := beq_eq_false_iff_ne.2 g
      rw [decide_eq_false fun h => g h.2]
      clear g
      go_enter Try.func28, Try.ntmps28
      go_wp2
      go_ret
      exact ⟨rfl, (Below.refl _ _).alloc (Nat.le_refl _) _⟩
  · have e : (k == 4) = false := beq_eq_false_iff_ne.2 h
    rw [decide_eq_false fun g => h g.1]
    clear h
    go_enter Try.func28, Try.ntmps28
    go_wp2
    go_ret
    exact ⟨rfl, (Below.refl _ _).alloc (Nat.le_refl _) _⟩

set_option maxHeartbeats 1000000 in
set_option maxRecDepth 100000 in
theorem containsActs_none (A : Option Addr) (c : Nat) (fv : Value) (w : World) :
    Calls Try.prog 27 #[.slice A 0 c, fv] w fun e w' => e = .returned (.bool false) ∧ w = w' := by
  have G : ∀ w, Calls Try.prog 39 #[.slice A 0 c, fv] w fun e w' => e = .returned (.int .i64 (-1)) ∧ w = w' := by
    intro w
    go_enter Try.func39, Try.ntmps39
    go_wp2
    go_loopw [5, 8] (fun s5 s8 wr => s5 = s5 ∧ s8 = .int .i64 0 ∧ wr = w) (fun _ _ _ => 0)
    case atStart => exact ⟨rfl, rfl, rfl⟩
    case round =>
      obtain ⟨_, rfl, rfl⟩ := hrel
      go_wp2
      go_ret
      exact ⟨rfl, rfl⟩
  have G2 := Lib.hid G
  clear G
  go_enter Try.func27, Try.ntmps27
  go_wp2_with fail
  refine (G2.out _).mono ?_
  rintro e w' ⟨rfl, rfl⟩
  go_wp2
  go_ret
  exact ⟨rfl, rfl⟩

theorem act_agg (w : World) : (isAgg 26).run Try.prog w = .ok true w := Try.isAgg26 w
theorem containsActs_any (A : Option Addr) (c : Nat) (m : List ActV) (b : Nat) (id : Int) (w : World) (hb : b < w.heap.size) (hc : w.cell? ⟨b, 0, none⟩ = some (.int .i64 id)) (hA : ActsAt w A m) (hml : m.length ≤ 1048576) :
    Calls Try.prog 27 #[.slice A m.length c, .func (.func 28) #[] #[.pointer (some ⟨b, 0, none⟩)]] w fun e w' => e = .returned (.bool (m.any (edB id))) ∧ Below w.heap.size w w' := by
  by_cases hm : m = []
  · subst hm
    exact (containsActs_none A c _ w).mono fun e w' ⟨h1, h2⟩ => ⟨h1, by rw [← h2]; exact Below.refl _ _⟩
  · obtain ⟨bl, off, rfl, hbl⟩ := hA.form (List.length_pos_iff.2 hm)
    have eg : ∀ args w, (callFunc 28 args).run Try.prog w = .ok (.enter 28 args) w := enters_of Try.func28 (by kernel_rfl) rfl
    have hcon := AnyQ.slices_ContainsFunc Try.containsActs 6 (fun w => act_agg w) (fun w => Try.sizeOf26 w) actCells actCells_length (edB id) 28 #[.pointer (some ⟨b, 0, none⟩)] eg bl off m.length c m w
      (fun W x hbW => (editCmp_any b id x W (Nat.lt_of_lt_of_le hb hbW.size) ((hbW.cell (p := ⟨b, 0, none⟩) hb).trans hc)).mono fun e w' ⟨h1, h2⟩ => ⟨h1, hbW.trans (h2.mono hbW.size)⟩)
      (Nat.le_refl _) (by omega) hbl (fun j hj i v hv => ?_)
    · rw [List.take_length] at hcon
      exact hcon
    · rw [List.getElem!_eq_getElem?_getD, List.getElem?_eq_getElem hj] at hv
      have := CellsAt.cell hA.1 (j := j * 6 + i) (v := v) (by
        have hi : i < 6 := by
          have := (List.getElem?_eq_some_iff.1 hv).1
          exact this
        rw [flat_get actCells 6 actCells_length m j hj i hi]
        exact hv)
      rw [Nat.add_assoc]
      exact this
set_option maxRecDepth 100000 in
theorem edited_any (A : Option Addr) (c : Nat) (m : List ActV) (id : Int) (w : World) (hA : ActsAt w A m) (hml : m.length ≤ 1048576) :
    Calls Try.prog 14 #[.slice A m.length c, .int .i64 id] w fun e w' => e = .returned (.bool (m.any (edB id))) ∧ Below w.heap.size w w' := by
  have hb1 : Below w.heap.size w (w.alloc (.cells #[.int .i64 id] 3)) := (Below.refl _ _).alloc (Nat.le_refl _) _
  have G := Lib.hid (containsActs_any A c m w.heap.size id (w.alloc (.cells #[.int .i64 id] 3)) (by simp) (cell_of_row _ _ _ _ _ _ (heap_alloc_new w _)) (hA.below hb1) hml)
  have HB := Lib.hid hb1
  clear hb1 hA
  obtain ⟨T, HT⟩ : ∃ T, Hid (m.any (edB id) = T) := ⟨_, Lib.hid rfl⟩
  rw [HT.out] at G ⊢
  go_enter Try.func14, Try.ntmps14
  go_wp2_with fail
  refine G.out.mono ?_
  rintro e w1 ⟨rfl, hb⟩
  go_wp2
  go_ret
  exact ⟨rfl, HB.out.trans (hb.mono HB.out.size)⟩

/-- What the parts that put in put in, told loosely. -/
def insK (l : List CompV) : Nat := (l.map fun c => if c.kind = 2 then loose c.text else 0).sum
def insA (l : List ActV) : Nat := (l.map fun a => insK a.ops).sum
theorem insK_append (l m : List CompV) : insK (l ++ m) = insK l + insK m := by simp [insK]
theorem insA_append (l m : List ActV) : insA (l ++ m) = insA l + insA m := by simp [insA]
theorem insK_take {l : List CompV} {k : Nat} (hk : k < l.length) : insK (l.take (k + 1)) = insK (l.take k) + if l[k].kind = 2 then loose l[k].text else 0 := by
  rw [List.take_succ_eq_append_getElem hk, insK_append]
  simp [insK]
theorem insA_take {l : List ActV} {k : Nat} (hk : k < l.length) : insA (l.take (k + 1)) = insA (l.take k) + insK l[k].ops := by
  rw [List.take_succ_eq_append_getElem hk, insA_append]
  simp [insA]
theorem insK_le (l : List CompV) : insK l ≤ tlen l := by
  induction l with
  | nil => simp [insK]
  | cons c l ih =>
    have h1 : insK (c :: l) = (if c.kind = 2 then loose c.text else 0) + insK l := by simp [insK]
    have h2 : tlen (c :: l) = c.text.length + tlen l := by simp [tlen]
    have := loose_le c.text
    split at h1 <;> omega
theorem tlen_take_le (l : List CompV) (k : Nat) : tlen (l.take k) ≤ tlen l := by
  have h : tlen l = tlen (l.take k) + tlen (l.drop k) := by
    have e := List.take_append_drop k l
    unfold tlen
    rw [← List.length_append, ← List.flatMap_append, e]
  omega
theorem insK_ok {l : List CompV} (h : rCheck l = 0) : insK l = insT l := by
  have hw := (ok_of h).wh
  unfold insK insT
  congr 1
  refine List.map_congr_left fun c hc => ?_
  rcases (hw c hc).cases with ⟨k, _, t⟩ | ⟨k, _, t⟩ | ⟨k, _, _, t⟩
  · rw [if_neg (by omega), t, cps_nil]; rfl
  · rw [if_neg (by omega), t, cps_nil]; rfl
  · rw [if_pos k, cps_loose t]
theorem hld_two {a b : Int} (h1 : 0 ≤ a) (h2 : 0 ≤ b) (h3 : a + b ≤ 1099511627776) : hld a b = a + b := by unfold hld; omega
theorem rOut_one {n : Int} {t : List Nat} (h : t.length ≤ 1099511627776) : rOut [CompV.mk 2 n t] = (loose t : Int) := by
  have := loose_le t
  rw [show [CompV.mk 2 n t] = [] ++ [CompV.mk 2 n t] from rfl, rOut_snoc, rOut_nil]
  rw [outStep, if_neg (by simp), if_pos rfl, hld_two (by omega) (by omega) (by simp only; omega), Int.zero_add]
theorem insA_le {l : List ActV} (h : ∀ a ∈ l, ActOk a) : insA l ≤ l.length * 4000 := by
  induction l with
  | nil => simp [insA]
  | cons a l ih =>
    have h1 : insA (a :: l) = insK a.ops + insA l := by simp [insA]
    have h2 := ih fun x hx => h x (List.mem_cons_of_mem _ hx)
    have h3 := insK_le a.ops
    have h4 := (h a (List.mem_cons_self ..)).2.2.2
    rw [List.length_cons]
    omega

set_option maxHeartbeats 4000000 in
set_option maxRecDepth 100000 in
theorem inserted_any (A : Option Addr) (c : Nat) (l : List ActV) (hl : l.length ≤ 1048576) (hg : ∀ a ∈ l, ActOk a) (w : World) (hA : ActsAt w A l) :
    Calls Try.prog 15 #[.slice A l.length c] w fun e w' => e = .returned (.int .i64 (insA l : Int)) ∧ Below w.heap.size w w' := by
  have HA := Lib.hid hA; clear hA
  have HG := Lib.hid hg; clear hg
  have HTAKE : Hid (∀ k, insA (l.take k) ≤ 4194304000) := Lib.hid (fun k => by
    have h := insA_le (l := l.take k) fun a ha => HG.out a (List.mem_of_mem_take ha)
    rw [List.length_take] at h
    omega)
  go_enter Try.func15, Try.ntmps15
  go_wp2
  go_loopw [3, 5, 7, 10] (fun n s5 s7 i wr => ∃ k N : Nat, k ≤ l.length ∧ n = .int .i64 (N : Int) ∧ s5 = s5 ∧ s7 = s7 ∧ i = .int .i64 (k : Int) ∧ Hid (insA (l.take k) = N) ∧ Hid (Below w.heap.size w wr)) (fun _ _ _ i _ => l.length - (intOf i).toNat)
  case atStart => exact ⟨0, 0, Nat.zero_le _, rfl, rfl, rfl, rfl, Lib.hid rfl, Lib.hid (Below.refl _ _)⟩
  case round =>
    obtain ⟨k, N, hk, rfl, _, _, rfl, HN, HBEL⟩ := hrel
    obtain ⟨wo, hwo⟩ : ∃ x, x = wr := ⟨wr, rfl⟩
    subst hwo
    have hNT := HTAKE.out k
    rw [HN.out] at hNT
    by_cases hlt : k < l.length
    · obtain ⟨b, off, rfl, _⟩ := HA.out.form (by omega)
      have hltI : (k : Int) < (l.length : Int) := by omega
      obtain ⟨z0, z1, z2, z3, z4, z5⟩ := (HA.out.below HBEL.out).at_ hlt
      have HCO := Lib.hid ((HA.out.below HBEL.out).2 _ (List.getElem_mem hlt))
      have HOK := Lib.hid (HG.out _ (List.getElem_mem hlt))
      have HNX : Hid (insA (l.take (k + 1)) = N + insK l[k].ops) := Lib.hid (by rw [insA_take hlt, HN.out])
      have hNX := HTAKE.out (k + 1)
      rw [HNX.out] at hNX
      generalize l[k] = a at z0 z1 z2 z3 z4 z5 HCO HOK HNX hNX
      obtain ⟨ak, ai, ap, an, ad, aA, aC, ao⟩ := a
      simp only at z0 z1 z2 z3 z4 z5 HCO HOK HNX hNX
      have hol := HOK.out.1.2.2.2.2.2
      simp only at hol
      have HOL : Hid (ao.length ≤ maxLen) := Lib.hid (by omega)
      unfold maxLen at hol
      have hbo : Below wo.heap.size wo (wo.alloc (.cells #[.int .i64 ak, .int .i64 ai, .int .i64 ap, .string (bstr an), .bool ad, .slice aA ao.length aC] 26)) := (Below.refl _ _).alloc (Nat.le_refl _) _
      have HBO := Lib.hid hbo
      clear hbo
      go_wp2
      go_loopw [3, 7, 17] (fun n s7 j wr => ∃ m M : Nat, m ≤ ao.length ∧ n = .int .i64 (M : Int) ∧ s7 = s7 ∧ j = .int .i64 (m : Int) ∧ Hid (N + insK (ao.take m) = M) ∧ Hid (Below wo.heap.size wo wr)) (fun _ _ j _ => ao.length - (intOf j).toNat)
      case atStart => exact ⟨0, N, Nat.zero_le _, rfl, rfl, rfl, Lib.hid rfl, HBO⟩
      case round =>
        obtain ⟨m, M, hm, rfl, _, rfl, HM, HBM⟩ := hrel
        obtain ⟨wi, hwi⟩ : ∃ x, x = wr := ⟨wr, rfl⟩
        subst hwi
        have hM : M ≤ 4194312000 := by
          have h1 := insK_le (ao.take m)
          have h2 := tlen_take_le ao m
          have h3 := HOK.out.2.2.2
          have h4 := HM.out
          simp only at h3
          omega
        by_cases hmt : m < ao.length
        · obtain ⟨b2, off2, rfl, _⟩ := HCO.out.form (by omega)
          have hmtI : (m : Int) < (ao.length : Int) := by omega
          obtain ⟨x0, x1, x2⟩ := (HCO.out.below HBM.out).at_ hmt
          have HCG := Lib.hid (HOK.out.2.2.1 _ (List.getElem_mem hmt))
          have HMX : Hid (N + insK (ao.take (m + 1)) = M + if ao[m].kind = 2 then loose ao[m].text else 0) := Lib.hid (by rw [insK_take hmt, ← HM.out]; omega)
          generalize ao[m] = y at x0 x1 x2 HCG HMX
          obtain ⟨yk, yn, yt⟩ := y
          simp only at x0 x1 x2 HCG HMX
          have HBX : Hid (Below wo.heap.size wo (wi.alloc (.cells #[.int .i64 yk, .int .i64 yn, .string (bstr yt)] 29))) := Lib.hid (HBM.out.alloc HBM.out.size _)
          by_cases h2 : yk = 2
          · subst h2
            rw [if_pos rfl] at HMX
            have GO := Lib.hid (fun (w : World) (g : Nat) (hg : g = w.heap.size) => opOut_any (some ⟨g, 0, none⟩) 1 [CompV.mk 2 yn yt] (by simp [maxLen]) (fun y hy => by rw [List.mem_singleton.1 hy]; exact HCG.out) (w.alloc (.cells #[.int .i64 2, .int .i64 yn, .string (bstr yt)] 29)) (CellsAt.lit (fun j v hv => by simpa [compCells] using hv) hg))
            rw [rOut_one HCG.out.2] at GO
            simp only [List.length_cons, List.length_nil, Nat.zero_add] at GO
            have hzl := loose_le yt
            have hzm := HCG.out.2
            obtain ⟨z, HZ⟩ : ∃ z, Hid (loose yt = z) := ⟨_, Lib.hid rfl⟩
            rw [HZ.out] at GO hzl HMX
            go_wp2_with fail
            refine (GO.out _ _ (by simp)).mono ?_
            rintro e w2 ⟨rfl, hb2⟩
            have HB2 : Hid (Below wo.heap.size wo w2) := Lib.hid (HBX.out.trans ((((Below.refl _ _).alloc (Nat.le_refl _) _).trans (hb2.mono (by simp))).mono HBX.out.size))
            go_wp2
            go_roundw
            case rel => exact ⟨m + 1, M + z, by omega, by go_num, trivial, by go_num, HMX, HB2⟩
            case measure => simp [intOf]; omega
          · rw [if_neg h2, Nat.add_zero] at HMX
            have g2 : (yk == 2) = false := beq_eq_false_iff_ne.2 h2
            clear h2
            go_wp2
            go_roundw
            case rel => exact ⟨m + 1, M, by omega, rfl, trivial, by go_num, HMX, HBX⟩
            case measure => simp [intOf]; omega
        · obtain rfl : m = ao.length := by omega
          have HE : Hid (insA (l.take (k + 1)) = M) := Lib.hid (by rw [HNX.out, ← HM.out, List.take_length])
          have HB3 := Lib.hid (HBEL.out.trans (HBM.out.mono HBEL.out.size))
          go_wp2
          go_roundw
          case rel => exact ⟨k + 1, M, by omega, rfl, trivial, trivial, by go_num, HE, HB3⟩
          case measure => simp [intOf]; omega
    · obtain rfl : k = l.length := by omega
      have HE : Hid (insA l = N) := Lib.hid (by have := HN.out; rwa [List.take_length] at this)
      go_wp2
      go_ret
      exact ⟨by rw [HE.out]; rfl, HBEL.out⟩
end Go.Proofs.Ytmedaimndaaiiaa

/- The landed txn's Check. Conditions: acts that may be looked at; a slice with room for what it holds. -/
namespace Go.Proofs.Ytmedaimndaaiiaa
open Go.RowKit Go.Deep

theorem CellsAt.pre {w : World} {A : Option Addr} {l m : List Value} (h : CellsAt w A (l ++ m)) : CellsAt w A l := by
  rcases h with h | ⟨b, off, hA, hb, h⟩
  · exact .inl (List.append_eq_nil_iff.1 h).1
  · exact .inr ⟨b, off, hA, hb, fun j v hv => h j v (by rw [List.getElem?_append_left (List.getElem?_eq_some_iff.1 hv).1]; exact hv)⟩
theorem ActsAt.take {w : World} {A : Option Addr} {l : List ActV} (h : ActsAt w A l) (k : Nat) : ActsAt w A (l.take k) := by
  refine ⟨CellsAt.pre (m := (l.drop k).flatMap actCells) ?_, fun y hy => h.2 y (List.mem_of_mem_take hy)⟩
  rw [← List.flatMap_append, List.take_append_drop]
  exact h.1
theorem elem_acts : Try.prog.elem 23 = 26 := by kernel_rfl
theorem size_acts (w : World) : (sizeOf 26).run Try.prog w = .ok 6 w := Try.sizeOf26 w
/-- The place behind l[:k]. -/
def aHigh (A : Option Addr) (c : Nat) : Option Addr := if c = 0 then A else A.map (·.add (0 * 6))
theorem aHigh_same (b off : Nat) (c : Nat) : aHigh (some ⟨b, off, none⟩) c = some ⟨b, off, none⟩ := by
  unfold aHigh
  split
  · rfl
  · rw [Nat.zero_mul, Option.map_some, Go.WideShapes.add_plain, Nat.add_zero]
theorem acut_high (A : Option Addr) (n c k : Nat) (hk : k ≤ c) (w : World) : (Instr.slice 23 (.slice A n c) none (some (.int .i64 (k : Int))) none).run Try.prog w = .ok (.slice (aHigh A c) k c) w := by
  rw [run_slice_h (P := Try.prog) (w := w) 23 A n c (by rw [elem_acts]; exact Try.underlying23) .i64 (k : Int) (by omega) (by omega), elem_acts, size_acts]
  simp [Result.andThen, sliced, aHigh]
theorem acut_lit (b off n c k : Nat) (hk : k ≤ c) (w : World) : (Instr.slice 23 (.slice (some ⟨b, off, none⟩) n c) none (some (.int .i64 (k : Int))) none).run Try.prog w = .ok (.slice (some ⟨b, off, none⟩) k c) w := by
  rw [acut_high _ _ _ _ hk, aHigh_same]
/-- What is not an edit, and may be, has no parts. -/
theorem no_ops {a : ActV} (h : ¬ ABad a) (h4 : a.kind ≠ 4) : a.ops = [] := by
  have e : aKey a = aKey (aPlain a) := by
    by_cases g : aKey a = aKey (aPlain a)
    · exact g
    · exact absurd (.inr (.inr (.inl g))) h
  have e2 : a.ops = (aPlain a).ops := by
    simp only [aKey, Prod.mk.injEq] at e
    exact e.2.2.2.2.2
  rw [e2, aPlain]
  split
  · rfl
  split
  · rfl
  split
  · rfl
  · rfl
theorem check_nil : rCheck [] = 0 := by
  have hn : Nrm [] := fun i c h => by simp at h
  rw [rCheck, if_neg (by simp), nrmB_yes hn, if_neg (by simp), if_neg (by simp [rBase, rOut])]
/-- Of what is left behind those that were looked at. -/
theorem chk_bad {pre r : List ActV} {a : ActV} {n : Nat} (h : wholeB a = false) : chkR pre (a :: r) n = 1 := by
  refine chkR_bad ?_
  by_cases g : ABad a
  · exact g
  · rw [wholeB_yes g] at h; cases h
theorem good_of_whole {a : ActV} (h : wholeB a = true) : ¬ ABad a := fun g => by rw [wholeB_no g] at h; cases h
theorem chk_err {pre r : List ActV} {a : ActV} {n : Nat} (h : wholeB a = true) (he : rCheck a.ops ≠ 0) : chkR pre (a :: r) n = (rCheck a.ops : Int) := by
  have g := good_of_whole h
  by_cases h4 : a.kind = 4
  · exact chkR_err g h4 he
  · rw [no_ops g h4, check_nil] at he
    exact absurd rfl he
theorem any_ed {pre : List ActV} {id : Int} : pre.any (edB id) = true ↔ ∃ x ∈ pre, x.kind = 4 ∧ x.id = id := by
  rw [List.any_eq_true]
  constructor
  · rintro ⟨x, hx, h⟩
    exact ⟨x, hx, of_decide_eq_true h⟩
  · rintro ⟨x, hx, h⟩
    exact ⟨x, hx, decide_eq_true h⟩
theorem chk_twice {pre r : List ActV} {a : ActV} {n : Nat} (h : wholeB a = true) (he : rCheck a.ops = 0) (h4 : a.kind = 4) (hp : pre.any (edB a.id) = true) : chkR pre (a :: r) n = 1 :=
  chkR_twice (good_of_whole h) h4 he (any_ed.1 hp)
theorem chk_next {pre r : List ActV} {a : ActV} {n : Nat} (h : wholeB a = true) (he : rCheck a.ops = 0) (hp : a.kind = 4 → pre.any (edB a.id) = false) : chkR pre (a :: r) n = chkR (pre ++ [a]) r (n + insK a.ops) := by
  have g := good_of_whole h
  by_cases h4 : a.kind = 4
  · rw [insK_ok he]
    refine chkR_more g h4 he fun k => ?_
    have := any_ed.2 k
    rw [hp h4] at this
    cases this
  · rw [no_ops g h4, show insK [] = 0 from rfl, Nat.add_zero]
    exact chkR_skip g h4

set_option maxHeartbeats 8000000 in
set_option maxRecDepth 100000 in
theorem txnCheck_any (A : Option Addr) (c : Nat) (l : List ActV) (hl : l.length ≤ maxLen) (hcap : l.length ≤ c) (hg : ∀ a ∈ l, ActOk a) (w : World) (hA : ActsAt w A l) :
    Calls Try.prog 7 #[.slice A l.length c] w fun e w' => e = .returned (.int .i64 (rChk l)) ∧ Below w.heap.size w w' := by
  unfold maxLen at hl
  have HA := Lib.hid hA; clear hA
  have HG := Lib.hid hg; clear hg
  obtain ⟨T, HT⟩ : ∃ T, Hid (rChk l = T) := ⟨_, Lib.hid rfl⟩
  rw [HT.out]
  by_cases h20 : 20 < l.length
  · have HF : Hid (T = 3) := Lib.hid (by rw [← HT.out]; exact rChk_big h20)
    have h20i : (20 : Int) < (l.length : Int) := by omega
    go_enter Try.func7, Try.ntmps7
    go_wp2
    go_ret
    exact ⟨by rw [HF.out]; rfl, Below.refl _ _⟩
  have h20i : ¬ (20 : Int) < (l.length : Int) := by omega
  have HC0 : Hid (chkR [] l 0 = T) := Lib.hid (by rw [← HT.out]; exact (rChk_fit h20).symm)
  have HIN := Lib.hid (fun w (h : ActsAt w A l) => inserted_any A c l (by omega) HG.out w h)
  go_enter Try.func7, Try.ntmps7
  go_wp2
  go_loopw [3, 4, 5, 11] (fun s3 s4 s5 i wr => ∃ k : Nat, k ≤ l.length ∧ s3 = s3 ∧ s4 = s4 ∧ s5 = s5 ∧ i = .int .i64 (k : Int) ∧ Hid (chkR (l.take k) (l.drop k) (insA (l.take k)) = T) ∧ Hid (Below w.heap.size w wr)) (fun _ _ _ i _ => l.length - (intOf i).toNat)
  case atStart => exact ⟨0, Nat.zero_le _, rfl, rfl, rfl, rfl, Lib.hid (by rw [List.take_zero, List.drop_zero]; exact HC0.out), Lib.hid (Below.refl _ _)⟩
  case round =>
    clear HC0
    obtain ⟨k, hk, _, _, _, rfl, HCK, HBEL⟩ := hrel
    obtain ⟨wo, hwo⟩ : ∃ x, x = wr := ⟨wr, rfl⟩
    subst hwo
    by_cases hlt : k < l.length
    · obtain ⟨b, off, rfl, _⟩ := HA.out.form (by omega)
      have hltI : (k : Int) < (l.length : Int) := by omega
      obtain ⟨z0, z1, z2, z3, z4, z5⟩ := (HA.out.below HBEL.out).at_ hlt
      have HCO := Lib.hid ((HA.out.below HBEL.out).2 _ (List.getElem_mem hlt))
      have HOK := Lib.hid (HG.out _ (List.getElem_mem hlt))
      have HTK : Hid (l.take k ++ [l[k]] = l.take (k + 1)) := Lib.hid (List.take_succ_eq_append_getElem hlt).symm
      have HCK2 : Hid (chkR (l.take k) (l[k] :: l.drop (k + 1)) (insA (l.take k)) = T) := Lib.hid (by rw [← List.drop_eq_getElem_cons hlt]; exact HCK.out)
      have HIA : Hid (insA (l.take (k + 1)) = insA (l.take k) + insK l[k].ops) := Lib.hid (insA_take hlt)
      have HPRE : Hid (∀ W, Below w.heap.size w W → ActsAt W (some ⟨b, off, none⟩) (l.take k)) := Lib.hid (fun W h => (HA.out.below h).take k)
      have HTL : Hid ((l.take k).length = k) := Lib.hid (by rw [List.length_take]; omega)
      clear HCK
      generalize l[k] = a at z0 z1 z2 z3 z4 z5 HCO HOK HTK HCK2 HIA
      have GW := Lib.hid (fun (W : World) (h : Below wo.heap.size wo W) => whole_any a HOK.out.1 W (HCO.out.below h))
      have GO := Lib.hid (fun (W : World) (h : Below wo.heap.size wo W) => opCheck_any a.opsA a.opsC a.ops (by have := HOK.out.1.2.2.2.2.2; omega) HOK.out.2.2.1 W (HCO.out.below h))
      have GE := Lib.hid (fun (W : World) (h : Below w.heap.size w W) => edited_any (some ⟨b, off, none⟩) c (l.take k) a.id W (HPRE.out W h) (by rw [HTL.out]; omega))
      rw [HTL.out] at GE
      have hkc : k ≤ c := by omega
      have hsl := fun W => acut_lit b off l.length c k hkc W
      have hkci : (k : Int) ≤ (c : Int) := by omega
      obtain ⟨wb, HWB⟩ : ∃ x, Hid (wholeB a = x) := ⟨_, Lib.hid rfl⟩
      obtain ⟨rc, HRC⟩ : ∃ x, Hid (rCheck a.ops = x) := ⟨_, Lib.hid rfl⟩
      obtain ⟨ed, HED⟩ : ∃ x, Hid ((l.take k).any (edB a.id) = x) := ⟨_, Lib.hid rfl⟩
      have HBAD : Hid (wb = false → T = 1) := Lib.hid (fun h => by rw [← HCK2.out]; exact chk_bad (by rw [HWB.out]; exact h))
      have HERR : Hid (wb = true → rc ≠ 0 → T = (rc : Int)) := Lib.hid (fun h g => by rw [← HCK2.out, ← HRC.out]; exact chk_err (by rw [HWB.out]; exact h) (by rw [HRC.out]; exact g))
      have HTWICE : Hid (wb = true → rc = 0 → a.kind = 4 → ed = true → T = 1) := Lib.hid (fun h g k4 e => by rw [← HCK2.out]; exact chk_twice (by rw [HWB.out]; exact h) (by rw [HRC.out]; exact g) k4 (by rw [HED.out]; exact e))
      have HNEXT : Hid (wb = true → rc = 0 → (a.kind = 4 → ed = false) → chkR (l.take (k + 1)) (l.drop (k + 1)) (insA (l.take (k + 1))) = T) := Lib.hid (fun h g e => by
        rw [← HCK2.out, chk_next (by rw [HWB.out]; exact h) (by rw [HRC.out]; exact g) (by rw [HED.out]; exact e), HTK.out, HIA.out])
      rw [HWB.out] at GW
      rw [HRC.out] at GO
      rw [HED.out] at GE
      clear HWB HRC HED HCK2 HIA HTK HPRE HTL
      unfold actCells at GW
      obtain ⟨ak, ai, ap, an, ad, aA, aC, ao⟩ := a
      simp only at z0 z1 z2 z3 z4 z5 HCO HOK GW GO GE HTWICE HNEXT
      obtain ⟨wn, HWN⟩ : ∃ x, Hid (wo.alloc (.cells #[.int .i64 ak, .int .i64 ai, .int .i64 ap, .string (bstr an), .bool ad, .slice aA ao.length aC] 26) = x) := ⟨_, Lib.hid rfl⟩
      have HCELL : Hid (∀ (f : Nat) (v : Value), (actCells ⟨ak, ai, ap, an, ad, aA, aC, ao⟩)[f]? = some v → ∀ X : World, Below wn.heap.size wn X → X.cell? ⟨wo.heap.size, f, none⟩ = some v) := Lib.hid (fun f v hf X h => by
        have e : wn.cell? ⟨wo.heap.size, f, none⟩ = some v := by
          rw [← HWN.out, cell_of_row _ _ _ _ _ _ (heap_alloc_new wo _)]
          simpa [actCells] using hf
        exact (h.cell (World.block_lt_of_cell? _ _ e)).trans e)
      have HON : Hid (Below wo.heap.size wo wn) := Lib.hid (by
        rw [← HWN.out]
        exact (Below.refl _ _).alloc (Nat.le_refl _) _)
      go_upto_region 6 with fail
      rw [HWN.out]
      have e0 := HCELL.out 0 _ rfl _ (Below.refl _ _)
      have e1 := HCELL.out 1 _ rfl _ (Below.refl _ _)
      have e2 := HCELL.out 2 _ rfl _ (Below.refl _ _)
      have e3 := HCELL.out 3 _ rfl _ (Below.refl _ _)
      have e4 := HCELL.out 4 _ rfl _ (Below.refl _ _)
      have e5 := HCELL.out 5 _ rfl _ (Below.refl _ _)
      clear z0 z1 z2 z3 z4 z5
      go_wp2_with fail
      refine (GW.out _ HON.out).mono ?_
      rintro e v1 ⟨rfl, hb1⟩
      have HV1 := Lib.hid (HON.out.trans (hb1.mono HON.out.size))
      have f5 := HCELL.out 5 _ rfl _ hb1
      have HN1 := Lib.hid hb1
      clear e0 e1 e2 e3 e4 e5 hb1
      cases wb with
      | false =>
        have HF := Lib.hid (HBAD.out rfl)
        go_wp2
        go_ret
        exact ⟨by rw [HF.out]; rfl, HBEL.out.trans (HV1.out.mono HBEL.out.size)⟩
      | true =>
        replace HERR := Lib.hid (HERR.out rfl)
        replace HTWICE := Lib.hid (HTWICE.out rfl)
        replace HNEXT := Lib.hid (HNEXT.out rfl)
        clear HBAD
        go_wp2_with fail
        refine (GO.out _ HV1.out).mono ?_
        rintro e v2 ⟨rfl, hb2⟩
        have HV2 := Lib.hid (HV1.out.trans (hb2.mono HV1.out.size))
        have HN2 := Lib.hid (HN1.out.trans (hb2.mono HN1.out.size))
        clear f5 hb2
        by_cases hrc : rc = 0
        rotate_left
        · have HF := Lib.hid (HERR.out hrc)
          have hrn : ((rc : Int) != 0) = true := bne_iff_ne.2 (by omega)
          clear hrc
          go_wp2
          go_ret
          exact ⟨by rw [HF.out]; rfl, HBEL.out.trans (HV2.out.mono HBEL.out.size)⟩
        subst hrc
        replace HTWICE := Lib.hid (HTWICE.out rfl)
        replace HNEXT := Lib.hid (HNEXT.out rfl)
        clear HERR
        go_upto_region 11 with fail
        have HD : Hid (Below wn.heap.size wn v2.drew) := Lib.hid (Below.drew HN2.out)
        have HDW : Hid (Below w.heap.size w v2.drew) := Lib.hid (Below.drew (HBEL.out.trans (HV2.out.mono HBEL.out.size)))
        by_cases h4 : ak = 4
        · subst h4
          replace HTWICE := Lib.hid (HTWICE.out rfl)
          replace HNEXT := Lib.hid (fun h => HNEXT.out (fun _ => h))
          refine wp_region_lit [(0, true), (1, true), (2, true), (3, true), (4, true), (5, true), (6, true), (7, true), (8, true), (9, false), (10, true)] (by kernel_rfl) (by kernel_rfl) (fun _ _ d _ _ h => by cases d <;> exact h) ?_
          simp only [picked, List.map_cons, List.map_nil, List.getElem?_cons_succ, List.getElem?_cons_zero, Option.getD_some]
          generalize v2.drew = vd at HD HDW ⊢
          have e0 := fun e : Ext vd => HCELL.out 0 _ rfl e.val (HD.out.trans (e.property.mono HD.out.size))
          have e1 := fun e : Ext vd => HCELL.out 1 _ rfl e.val (HD.out.trans (e.property.mono HD.out.size))
          repeat (first | (refine wpL_quiet (by rfl) (fun K hK => ?_); go_big_quiet_op; refine hK _ ?_; clear hK K) | (refine wpL_skip (by rfl) ?_; simp only [Act.put, List.setIfInBounds_toArray, List.set_cons_zero, List.set_cons_succ]) | (simp only [Bool.not_true, Bool.not_false, Bool.or_false, Bool.false_or, Bool.true_or, Bool.or_true, Bool.false_and, Bool.true_and, Bool.and_true, Bool.and_false]))
          refine wpL_call (by rfl) (fun K hK => ?_)
          go_simp
          refine (GE.out _ HDW.out).mono ?_
          rintro e v3 ⟨rfl, hb3⟩
          have HB3 := Lib.hid (HDW.out.trans (hb3.mono HDW.out.size))
          refine hK _ _ hb3 ?_
          clear hK K hb3 e0 e1
          cases ed with
          | true =>
            have HF := Lib.hid (HTWICE.out rfl)
            repeat (first | (refine wpL_quiet (by rfl) (fun K hK => ?_); go_big_quiet_op; refine hK _ ?_; clear hK K) | (refine wpL_skip (by rfl) ?_; simp only [Act.put, List.setIfInBounds_toArray, List.set_cons_zero, List.set_cons_succ]) | (simp only [Bool.not_true, Bool.not_false, Bool.or_false, Bool.false_or, Bool.true_or, Bool.or_true, Bool.false_and, Bool.true_and, Bool.and_true, Bool.and_false]))
            refine wpL_nil ?_
            go_wp2
            go_ret
            exact ⟨by rw [HF.out]; rfl, HB3.out⟩
          | false =>
            have HF := Lib.hid (HNEXT.out rfl)
            repeat (first | (refine wpL_quiet (by rfl) (fun K hK => ?_); go_big_quiet_op; refine hK _ ?_; clear hK K) | (refine wpL_skip (by rfl) ?_; simp only [Act.put, List.setIfInBounds_toArray, List.set_cons_zero, List.set_cons_succ]) | (simp only [Bool.not_true, Bool.not_false, Bool.or_false, Bool.false_or, Bool.true_or, Bool.or_true, Bool.false_and, Bool.true_and, Bool.and_true, Bool.and_false]))
            refine wpL_nil ?_
            go_wp2
            go_roundw
            case rel => exact ⟨k + 1, by omega, trivial, trivial, trivial, by go_num, HF, HB3⟩
            case measure => simp [intOf]; omega
        · have d4 : (ak == 4) = false := beq_eq_false_iff_ne.2 h4
          have HF := Lib.hid (HNEXT.out fun h => absurd h h4)
          clear h4
          refine wp_region_lit [(0, true), (1, true), (2, true), (3, true), (4, true), (5, true), (6, true), (7, true), (8, true), (9, false), (10, true)] (by kernel_rfl) (by kernel_rfl) (fun _ _ d _ _ h => by cases d <;> exact h) ?_
          simp only [picked, List.map_cons, List.map_nil, List.getElem?_cons_succ, List.getElem?_cons_zero, Option.getD_some]
          generalize v2.drew = vd at HD HDW ⊢
          have e0 := fun e : Ext vd => HCELL.out 0 _ rfl e.val (HD.out.trans (e.property.mono HD.out.size))
          repeat (first | (refine wpL_quiet (by rfl) (fun K hK => ?_); go_big_quiet_op; refine hK _ ?_; clear hK K) | (refine wpL_skip (by rfl) ?_; simp only [Act.put, List.setIfInBounds_toArray, List.set_cons_zero, List.set_cons_succ]) | (simp only [d4, Bool.not_true, Bool.not_false, Bool.or_false, Bool.false_or, Bool.true_or, Bool.or_true, Bool.false_and, Bool.true_and, Bool.and_true, Bool.and_false]))
          refine wpL_nil ?_
          go_wp2
          go_roundw
          case rel => exact ⟨k + 1, by omega, trivial, trivial, trivial, by go_num, HF, HDW⟩
          case measure => simp [intOf]; omega
    · obtain rfl : k = l.length := by omega
      have hend : (if 2000 < insA l then (3 : Int) else 0) = T := by
        have := HCK.out
        rw [List.take_length, List.drop_length, chkR] at this
        exact this
      obtain ⟨n, HNN⟩ : ∃ n, Hid (insA l = n) := ⟨_, Lib.hid rfl⟩
      rw [HNN.out] at hend HIN
      go_wp2_with fail
      refine (HIN.out _ (HA.out.below HBEL.out)).mono ?_
      rintro e v1 ⟨rfl, hb1⟩
      have HB1 := Lib.hid (HBEL.out.trans (hb1.mono HBEL.out.size))
      clear hb1
      by_cases hn : 2000 < n
      · rw [if_pos hn] at hend
        have HF := Lib.hid hend
        have hni : (2000 : Int) < (n : Int) := by omega
        clear hend
        go_wp2
        go_ret
        exact ⟨by rw [← HF.out]; rfl, HB1.out⟩
      · rw [if_neg hn] at hend
        have HF := Lib.hid hend
        have hni : ¬ (2000 : Int) < (n : Int) := by omega
        clear hend
        go_wp2
        go_ret
        exact ⟨by rw [← HF.out]; rfl, HB1.out⟩
end Go.Proofs.Ytmedaimndaaiiaa

/- The landed txn's Do: a copy of the tree, each act on it, or none. Conditions: a tree; acts that may be looked at, in a slice with room for them. -/
namespace Go.Proofs.Ytmedaimndaaiiaa
open Go.RowKit Go.Deep

theorem ActsAt.keepT {w w' : World} {g : Nat} {t : List NodeV} (h : TreeAt w g t) (ho : Only g w w') {A : Option Addr} {l : List ActV} (hc : ActsAt w A l) : ActsAt w' A l := by
  refine ⟨CellsAt.only h ho hc.1 fun v hv B n c e => ?_, fun y hy => CellsAt.only h ho (hc.2 y hy) fun v hv B n c e => ?_⟩
  · cases l with
    | nil => cases hv
    | cons y l =>
      rw [List.flatMap_cons] at hv
      injection hv with hv
      rw [e] at hv
      cases hv
  · cases ho2 : y.ops with
    | nil => rw [ho2] at hv; cases hv
    | cons z r =>
      rw [ho2, List.flatMap_cons] at hv
      injection hv with hv
      rw [e] at hv
      cases hv
/-- What Do answers. -/
def TxnRes (w w' : World) (R : List NodeV × Int × Int) (e : Ending) : Prop :=
  ∃ p : Option Addr, e = .returned (.tuple #[.pointer p, .int .i64 R.2.1, .int .i64 R.2.2]) ∧ (R.2.2 = 0 → ∃ g, p = some ⟨g, 0, none⟩ ∧ w.heap.size ≤ g ∧ TreeAt w' g R.1) ∧ (R.2.2 ≠ 0 → p = none)
structure TxS (W : World) (g : Nat) (T : List NodeV) (B : Option Addr) (l : List ActV) (wr : World) : Prop where
  tree : TreeAt wr g T
  acts : ActsAt wr B l
  bel : Below W.heap.size W wr
  new : W.heap.size ≤ g
theorem TxS.does {W : World} {g : Nat} {T X : List NodeV} {B : Option Addr} {l : List ActV} {wr w2 : World} (h : TxS W g T B l wr) (ht : TreeAt w2 g X) (ho : Only g wr w2) : TxS W g X B l w2 :=
  ⟨ht, ActsAt.keepT h.tree ho h.acts, ho.below h.bel h.new, h.new⟩
set_option maxHeartbeats 4000000 in
set_option maxRecDepth 100000 in
theorem txnDo_any {T : List NodeV} (hm : TreeM T) (g : Nat) (B : Option Addr) (d : Nat) (l : List ActV) (hl : l.length ≤ maxLen) (hcap : l.length ≤ d) (hok : ∀ a ∈ l, ActOk a) (w : World) (h : TreeAt w g T) (hB : ActsAt w B l) :
    Calls Try.prog 9 #[.pointer (some ⟨g, 0, none⟩), .slice B l.length d] w fun e w' => TxnRes w w' (doAllV T l) e ∧ Below w.heap.size w w' := by
  have GC := Lib.hid (txnCheck_any B d l hl hcap hok w hB)
  clear hcap
  unfold maxLen at hl
  have GY := Lib.hid (fun w h => copy_any g T hm w h)
  obtain ⟨Y, p, u, HV⟩ : ∃ Y p u, Hid (doAllV T l = (Y, p, u)) := ⟨_, _, _, Lib.hid rfl⟩
  rw [HV.out]
  have HE : Hid (rChk l ≠ 0 → Y = [] ∧ p = -1 ∧ u = rChk l) := Lib.hid (fun h => by
    have := HV.out
    rw [doAllV, if_pos h] at this
    injection this with a b
    injection b with b c
    exact ⟨a.symm, b.symm, c.symm⟩)
  have HD : Hid (rChk l = 0 → doR T l 0 = (Y, p, u)) := Lib.hid (fun h => by
    have := HV.out
    rw [doAllV, if_neg (fun g => g h)] at this
    exact this)
  have HM := Lib.hid hm
  have HTA := Lib.hid h
  have HBA := Lib.hid hB
  clear HV hm h hB
  generalize rChk l = r at GC HE HD
  go_enter Try.func9, Try.ntmps9
  go_wp2
  refine wp_scope_fwd ?_
  go_wp2_with fail
  refine GC.out.mono ?_
  rintro e x1 ⟨rfl, hb⟩
  replace HTA := Lib.hid (HTA.out.below hb)
  replace HBA := Lib.hid (HBA.out.below hb)
  have HBEL := Lib.hid hb
  clear hb GC
  by_cases hr : r = 0
  rotate_left
  · obtain ⟨e1, e2, e3⟩ := HE.out hr
    subst e1 e2 e3
    have hrn : (u != 0) = true := by simpa using hr
    have HNR := Lib.hid hr
    clear hr HE HD
    go_wp2
    go_step3
    refine ⟨_, rfl, ?_⟩
    go_wp2
    rw [Exit.noGoto_ret]
    go_ret3
    exact ⟨⟨none, rfl, fun h => absurd h HNR.out, fun _ => rfl⟩, HBEL.out⟩
  have HR := Lib.hid (HD.out hr)
  have hrn : (r != 0) = false := by rw [hr]; rfl
  clear HE HD hr
  go_wp2_with fail
  refine (GY.out _ HTA.out).mono ?_
  rintro e x2 ⟨g2, rfl, hg2, ht, hb⟩
  have HS : Hid (TxS w g2 T B l x2) := Lib.hid ⟨ht, HBA.out.below hb, HBEL.out.trans (hb.mono HBEL.out.size), Nat.le_trans HBEL.out.size hg2⟩
  clear hg2 ht hb HTA HBA HBEL GY
  go_wp2_with fail
  go_loopw [8, 9, 18] (fun s8 s9 s18 wr => ∃ (k : Nat) (T2 : List NodeV), k ≤ l.length ∧ s8 = s8 ∧ s9 = s9 ∧ s18 = .int .i64 (k : Int) ∧ Hid (TreeM T2) ∧ Hid (doR T2 (l.drop k) k = (Y, p, u)) ∧ Hid (TxS w g2 T2 B l wr)) (fun _ _ s18 _ => l.length - (intOf s18).toNat)
  case atStart => exact ⟨0, T, Nat.zero_le _, rfl, rfl, rfl, HM, HR, HS⟩
  case round =>
    clear HM HR HS
    obtain ⟨k, T2, hk, _, _, rfl, HM, HR, HS⟩ := hrel
    by_cases hlt : k < l.length
    · obtain ⟨b, off, rfl, _⟩ := HS.out.acts.form (by omega)
      have hltI : (k : Int) < (l.length : Int) := by omega
      obtain ⟨z0, z1, z2, z3, z4, z5⟩ := HS.out.acts.at_ hlt
      have HCO := Lib.hid (HS.out.acts.2 _ (List.getElem_mem hlt))
      have hact := hok _ (List.getElem_mem hlt)
      have HR2 : Hid (doR T2 (l[k] :: l.drop (k + 1)) k = (Y, p, u)) := Lib.hid (by rw [← List.drop_eq_getElem_cons hlt]; exact HR.out)
      clear HR
      generalize l[k] = a at z0 z1 z2 z3 z4 z5 HCO hact HR2
      obtain ⟨X, v, hXv⟩ : ∃ X v, rDo T2 a = (X, v) := ⟨_, _, rfl⟩
      have HX : Hid (TreeM X) := by
        have := HM.out.does a
        rw [hXv] at this
        exact this
      have GD := Lib.hid (fun w h hop => tDo (g := g2) hXv HM.out hact w h hop)
      have HST : Hid (v ≠ 0 → (Y, p, u) = ([], (k : Int), v)) := Lib.hid (fun h => by rw [← HR2.out]; exact doR_stop hXv h)
      have HGO : Hid (v = 0 → doR X (l.drop (k + 1)) (k + 1) = (Y, p, u)) := Lib.hid (fun h => by rw [← HR2.out]; exact (doR_step (by rw [hXv, h])).symm)
      clear hXv hact HR2
      go_wp2_with fail
      refine (GD.out _ HS.out.tree HCO.out).mono ?_
      rintro e x3 ⟨rfl, ht, ho⟩
      replace HS := Lib.hid (HS.out.does ht ho)
      clear ht ho z0 z1 z2 z3 z4 z5 HCO GD
      by_cases hv : v = 0
      · have HR3 := Lib.hid (HGO.out hv)
        have hvn : (v != 0) = false := by rw [hv]; rfl
        clear hv HGO HST
        go_wp2
        go_roundw
        case rel => exact ⟨k + 1, X, by omega, trivial, trivial, by go_num, HX, HR3, HS⟩
        case measure => simp [intOf]; omega
      · have e := HST.out hv
        injection e with e1 e2
        injection e2 with e2 e3
        subst e1 e2 e3
        have hvn : (u != 0) = true := by simpa using hv
        have HNV := Lib.hid hv
        clear hv HGO HST
        go_wp2
        go_step3
        refine ⟨_, rfl, ?_⟩
        go_wp2
        rw [Exit.noGoto_ret]
        go_ret3
        exact ⟨⟨none, rfl, fun h => absurd h HNV.out, fun _ => rfl⟩, HS.out.bel⟩
    · obtain rfl : k = l.length := by omega
      have e : (T2, ((l.length : Nat) : Int), (0 : Int)) = (Y, p, u) := by
        have := HR.out
        rw [List.drop_length] at this
        exact this
      injection e with e1 e2
      injection e2 with e2 e3
      subst e1 e2 e3
      go_wp2
      rw [fwd_ret]
      go_ret3
      exact ⟨⟨some ⟨g2, 0, none⟩, rfl, fun _ => ⟨g2, rfl, HS.out.new, HS.out.tree⟩, fun h => absurd rfl h⟩, HS.out.bel⟩
end Go.Proofs.Ytmedaimndaaiiaa
