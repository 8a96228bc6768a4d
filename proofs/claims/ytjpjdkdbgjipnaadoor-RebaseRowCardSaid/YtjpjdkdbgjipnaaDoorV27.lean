/- The landed txn's Check. Conditions: acts that may be looked at; a slice with room for what it holds. (Merged of 2 texts.) -/
import Derived.Test.YtjpjdkdbgjipnaaDoorV18
import Derived.Test.YtjpjdkdbgjipnaaDoorV22
import Derived.Test.YtjpjdkdbgjipnaaDoorV23
import Derived.Test.YtjpjdkdbgjipnaaDoorV31
import Derived.Test.YtjpjdkdbgjipnaaDoorV4
import Derived.BigQuiet
import Derived.Test.YtjpjdkdbgjipnaaDoorV26
import Derived.Test.YtjpjdkdbgjipnaaDoorV6
namespace Go.Proofs.YtjpjdkdbgjipnaaDoor
open Go.RowKit Go.Deep
def standB (a : ActV) : Bool := decide (a.kind = 1 ∨ a.kind = 3)
noncomputable def wholeB (a : ActV) : Bool := @decide (¬ ABad a) (Classical.propDecidable _)
theorem yy390 {a : ActV} (h : ABad a) : wholeB a = false := by unfold wholeB; exact @decide_eq_false _ (Classical.propDecidable _) (fun g => g h)
theorem yy295 {a : ActV} (h : ¬ ABad a) : wholeB a = true := by unfold wholeB; exact @decide_eq_true _ (Classical.propDecidable _) h
set_option maxRecDepth 100000 in
theorem yy344 (a : ActV) (w : World) :
  Calls Tryd.prog 74 #[.agg (yy0 a).toArray] w fun e w' => e = .returned (.bool (standB a)) ∧ Below w.heap.size w w' := by
 obtain ⟨k, i, p, n, d, A, c, o⟩ := a
 unfold standB yy0
 simp only
 by_cases h1 : k = 1
 ·subst h1
  rw [show decide ((1 : Int) = 1 ∨ (1 : Int) = 3) = true from rfl]
  go_enter Tryd.func74, Tryd.ntmps74
  go_wp2
  go_ret
  exact ⟨rfl, (Below.refl _ _).alloc (Nat.le_refl _) _⟩
 by_cases h3 : k = 3
 ·subst h3
  rw [show decide ((3 : Int) = 1 ∨ (3 : Int) = 3) = true from rfl]
  go_enter Tryd.func74, Tryd.ntmps74
  go_wp2
  go_ret
  exact ⟨rfl, (Below.refl _ _).alloc (Nat.le_refl _) _⟩
 ·rw [decide_eq_false (by omega)]
  have g1 : (k == 1) = false := xn h1
  have g3 : (k == 3) = false := xn h3
  clear h1 h3
  go_enter Tryd.func74, Tryd.ntmps74
  go_wp2
  go_ret
  exact ⟨rfl, (Below.refl _ _).alloc (Nat.le_refl _) _⟩
set_option maxHeartbeats 8000000 in
set_option maxRecDepth 100000 in
theorem yy585 (a : ActV) (ha : a.Good) (w : World) (hA : yy6 w a.opsA a.ops) :
  Calls Tryd.prog 52 #[.agg (yy0 a).toArray] w fun e w' => e = .returned (.bool (wholeB a)) ∧ Below w.heap.size w w' := by
 have GM := xh (fun w => yy583 a w)
 have GL := xh (fun (w' : World) (h : Below w.heap.size w w') => yy584 a (aPlain a) ha (Good.plain ha) w' (hA.below h) (comps_plain (hA.below h)))
 have GT := xh (fun w => yy344 a w)
 have GN := xh (fun w => yy689 a.name ha.2.2.2.1.1 (by have := ha.2.2.2.1.2; unfold maxLen at *; omega) w)
 obtain ⟨T, HT⟩ : ∃ T, Hid (wholeB a = T) := ⟨_, xh rfl⟩
 rw [HT.out]
 have HBAD : Hid (ABad a → T = false) := xh (fun h => by rw [← HT.out]; exact yy390 h)
 have HGOOD : Hid (¬ ABad a → T = true) := xh (fun h => by rw [← HT.out]; exact yy295 h)
 have HSM : Hid (sameA a (aPlain a) = false → ABad a) := xh (fun h => .inr (.inr (.inl fun e => by rw [yy137 e] at h; cases h)))
 have HSY : Hid (sameA a (aPlain a) = true → aKey a = aKey (aPlain a)) := xh (fun h => by
  by_cases g : aKey a = aKey (aPlain a)
  ·exact g
  ·rw [yy59 g] at h; cases h)
 clear ha hA
 obtain ⟨sm, HSV⟩ : ∃ sm, Hid (sameA a (aPlain a) = sm) := ⟨_, xh rfl⟩
 obtain ⟨b, HPB⟩ : ∃ b, Hid (aPlain a = b) := ⟨_, xh rfl⟩
 rw [HSV.out] at GL HSM HSY
 rw [HPB.out] at GM GL
 obtain ⟨st, HST⟩ : ∃ st, Hid (standB a = st) := ⟨_, xh rfl⟩
 rw [HST.out] at GT
 obtain ⟨nm, HNM⟩ : ∃ nm, Hid (rName a.name = nm) := ⟨_, xh rfl⟩
 rw [HNM.out] at GN
 have HEND : Hid (1 ≤ a.kind ∧ a.kind ≤ 4 → sm = true → 1 ≤ a.id ∧ a.id ≤ 1099511627776 → 0 ≤ a.parent ∧ a.parent ≤ 1099511627776 → T = (!st || nm)) := xh (fun h1 h2 h3 h4 => by
  by_cases g : (a.kind = 1 ∨ a.kind = 3) ∧ rName a.name = false
  ·rw [HBAD.out (.inr (.inr (.inr (.inr (.inr (.inr (.inr g)))))))]
   rw [← HST.out, ← HNM.out, g.2, standB, decide_eq_true g.1]
   rfl
  ·rw [HGOOD.out (by
    rintro (h | h | h | h | h | h | h | h)
    ·omega
    ·omega
    ·exact h (HSY.out h2)
    ·omega
    ·omega
    ·omega
    ·omega
    ·exact g h)]
   rw [← HST.out, ← HNM.out, standB]
   by_cases k : a.kind = 1 ∨ a.kind = 3
   ·have : rName a.name = true := by
     cases hn : rName a.name with
     | true => rfl
     | false => exact absurd ⟨k, hn⟩ g
    rw [this, decide_eq_true k]
    rfl
   ·rw [decide_eq_false k]
    rfl)
 have HIB : Hid (a.id < 1 → T = false) := xh (fun h => HBAD.out (.inr (.inr (.inr (.inl h)))))
 have HIC : Hid (1099511627776 < a.id → T = false) := xh (fun h => HBAD.out (.inr (.inr (.inr (.inr (.inl h))))))
 have HPL : Hid (a.parent < 0 → T = false) := xh (fun h => HBAD.out (.inr (.inr (.inr (.inr (.inr (.inl h)))))))
 have HPU : Hid (1099511627776 < a.parent → T = false) := xh (fun h => HBAD.out (.inr (.inr (.inr (.inr (.inr (.inr (.inl h))))))))
 have HKL : Hid (a.kind < 1 → T = false) := xh (fun h => HBAD.out (.inl h))
 have HKU : Hid (4 < a.kind → T = false) := xh (fun h => HBAD.out (.inr (.inl h)))
 have HSF : Hid (sm = false → T = false) := xh (fun h => HBAD.out (HSM.out h))
 clear HBAD HGOOD HSM HSY HSV HPB HST HNM HT
 unfold yy0 at GM GL GT ⊢
 obtain ⟨ak, ai, ap, an, ad, aA, aC, ao⟩ := a
 simp only at GM GL GT GN HEND HIB HIC HPL HPU HKL HKU HSF ⊢
 go_enter Tryd.func52, Tryd.ntmps52
 go_upto_region 1 with fail
 obtain ⟨wn, HWN⟩ : ∃ x, Hid (w.alloc (.cells #[.int .i64 ak, .int .i64 ai, .int .i64 ap, .string (bstr an), .bool ad, .slice aA ao.length aC] 46) = x) := ⟨_, xh rfl⟩
 rw [HWN.out]
 have HCELL : Hid (∀ (f : Nat) (v : Value), (yy0 ⟨ak, ai, ap, an, ad, aA, aC, ao⟩)[f]? = some v → ∀ X : World, Below wn.drew.heap.size wn.drew X → X.cell? ⟨w.heap.size, f, none⟩ = some v) := xh (fun f v hf X h => by
  have e : wn.drew.cell? ⟨w.heap.size, f, none⟩ = some v := by
   show wn.cell? _ = _
   rw [← HWN.out, cell_of_row _ _ _ _ _ _ (heap_alloc_new w _)]
   simpa [yy0] using hf
  exact (h.cell (World.block_lt_of_cell? _ _ e)).trans e)
 have HBN : Hid (Below w.heap.size w wn.drew) := xh (by
  rw [← HWN.out]
  exact Below.drew ((Below.refl _ _).alloc (Nat.le_refl _) _))
 by_cases i1 : ak < 1
 ·have HF := xh (HKL.out i1)
  have d1 : decide (ak < 1) = true := decide_eq_true i1
  have HV0 : Hid (Below wn.drew.heap.size wn.drew wn.drew) := xh (Below.refl _ _)
  refine wp_region_lit sc1 (by kernel_rfl) (by kernel_rfl) (fun _ _ d _ _ h => by cases d <;> exact h) ?_
  simp only [picked, sc1, xmc, xmn, xgs, xgz, xgd]
  have e0 := fun e : Ext wn.drew => HCELL.out 0 _ rfl e.val (HV0.out.trans (e.property.mono HV0.out.size))
  have e1 := fun e : Ext wn.drew => HCELL.out 1 _ rfl e.val (HV0.out.trans (e.property.mono HV0.out.size))
  have e2 := fun e : Ext wn.drew => HCELL.out 2 _ rfl e.val (HV0.out.trans (e.property.mono HV0.out.size))
  have e3 := fun e : Ext wn.drew => HCELL.out 3 _ rfl e.val (HV0.out.trans (e.property.mono HV0.out.size))
  have e4 := fun e : Ext wn.drew => HCELL.out 4 _ rfl e.val (HV0.out.trans (e.property.mono HV0.out.size))
  have e5 := fun e : Ext wn.drew => HCELL.out 5 _ rfl e.val (HV0.out.trans (e.property.mono HV0.out.size))
  repeat (first | (refine yy3 (by rfl) (fun K hK => ?_); go_big_quiet_op; refine hK _ ?_; clear hK K) | (refine yy5 (by rfl) ?_; simp only [Act.put, xsa, xsz, xss]) | (simp only [d1, xb9, xb0, xb7, xb8, xb6, xb5, xb4, xb2, xb1, xb3]))
  refine yy39 ?_
  go_wp2
  go_ret
  exact ⟨by rw [HF.out]; rfl, HBN.out⟩
 have d1 : decide (ak < 1) = false := decide_eq_false i1
 by_cases i2 : 4 < ak
 ·have HF := xh (HKU.out i2)
  have d2 : decide (4 < ak) = true := decide_eq_true i2
  have HV0 : Hid (Below wn.drew.heap.size wn.drew wn.drew) := xh (Below.refl _ _)
  refine wp_region_lit sc1 (by kernel_rfl) (by kernel_rfl) (fun _ _ d _ _ h => by cases d <;> exact h) ?_
  simp only [picked, sc1, xmc, xmn, xgs, xgz, xgd]
  have e0 := fun e : Ext wn.drew => HCELL.out 0 _ rfl e.val (HV0.out.trans (e.property.mono HV0.out.size))
  have e1 := fun e : Ext wn.drew => HCELL.out 1 _ rfl e.val (HV0.out.trans (e.property.mono HV0.out.size))
  have e2 := fun e : Ext wn.drew => HCELL.out 2 _ rfl e.val (HV0.out.trans (e.property.mono HV0.out.size))
  have e3 := fun e : Ext wn.drew => HCELL.out 3 _ rfl e.val (HV0.out.trans (e.property.mono HV0.out.size))
  have e4 := fun e : Ext wn.drew => HCELL.out 4 _ rfl e.val (HV0.out.trans (e.property.mono HV0.out.size))
  have e5 := fun e : Ext wn.drew => HCELL.out 5 _ rfl e.val (HV0.out.trans (e.property.mono HV0.out.size))
  repeat (first | (refine yy3 (by rfl) (fun K hK => ?_); go_big_quiet_op; refine hK _ ?_; clear hK K) | (refine yy5 (by rfl) ?_; simp only [Act.put, xsa, xsz, xss]) | (simp only [d1, d2, xb9, xb0, xb7, xb8, xb6, xb5, xb4, xb2, xb1, xb3]))
  refine yy39 ?_
  go_wp2
  go_ret
  exact ⟨by rw [HF.out]; rfl, HBN.out⟩
 have d2 : decide (4 < ak) = false := decide_eq_false i2
 have HV0 : Hid (Below wn.drew.heap.size wn.drew wn.drew) := xh (Below.refl _ _)
 refine wp_region_lit sc1 (by kernel_rfl) (by kernel_rfl) (fun _ _ d _ _ h => by cases d <;> exact h) ?_
 simp only [picked, sc1, xmc, xmn, xgs, xgz, xgd]
 have e0 := fun e : Ext wn.drew => HCELL.out 0 _ rfl e.val (HV0.out.trans (e.property.mono HV0.out.size))
 have e1 := fun e : Ext wn.drew => HCELL.out 1 _ rfl e.val (HV0.out.trans (e.property.mono HV0.out.size))
 have e2 := fun e : Ext wn.drew => HCELL.out 2 _ rfl e.val (HV0.out.trans (e.property.mono HV0.out.size))
 have e3 := fun e : Ext wn.drew => HCELL.out 3 _ rfl e.val (HV0.out.trans (e.property.mono HV0.out.size))
 have e4 := fun e : Ext wn.drew => HCELL.out 4 _ rfl e.val (HV0.out.trans (e.property.mono HV0.out.size))
 have e5 := fun e : Ext wn.drew => HCELL.out 5 _ rfl e.val (HV0.out.trans (e.property.mono HV0.out.size))
 repeat (first | (refine yy3 (by rfl) (fun K hK => ?_); go_big_quiet_op; refine hK _ ?_; clear hK K) | (refine yy5 (by rfl) ?_; simp only [Act.put, xsa, xsz, xss]) | (simp only [d1, d2, xb9, xb0, xb7, xb8, xb6, xb5, xb4, xb2, xb1, xb3]))
 refine yy16 (by rfl) (fun K hK => ?_)
 go_simp
 refine (GM.out _).mono ?_
 rintro e v1 ⟨rfl, hb1⟩
 have HV1 := xh (HV0.out.trans (hb1.mono HV0.out.size))
 refine hK _ _ hb1 ?_
 clear hK K hb1
 refine yy16 (by rfl) (fun K hK => ?_)
 go_simp
 refine (GL.out _ (HBN.out.trans (HV1.out.mono HBN.out.size))).mono ?_
 rintro e v2 ⟨rfl, hb2⟩
 have HV2 := xh (HV1.out.trans (hb2.mono HV1.out.size))
 refine hK _ _ hb2 ?_
 clear hK K hb2 e0 e1 e2 e3 e4 e5
 cases sm with
 | false =>
  have HF := xh (HSF.out rfl)
  repeat (first | (refine yy3 (by rfl) (fun K hK => ?_); go_big_quiet_op; refine hK _ ?_; clear hK K) | (refine yy5 (by rfl) ?_; simp only [Act.put, xsa, xsz, xss]) | (simp only [d1, d2, xb9, xb0, xb7, xb8, xb6, xb5, xb4, xb2, xb1, xb3]))
  refine yy39 ?_
  go_wp2
  go_ret
  exact ⟨by rw [HF.out]; rfl, HBN.out.trans (HV2.out.mono HBN.out.size)⟩
 | true =>
  repeat (first | (refine yy3 (by rfl) (fun K hK => ?_); go_big_quiet_op; refine hK _ ?_; clear hK K) | (refine yy5 (by rfl) ?_; simp only [Act.put, xsa, xsz, xss]) | (simp only [d1, d2, xb9, xb0, xb7, xb8, xb6, xb5, xb4, xb2, xb1, xb3]))
  refine yy39 ?_
  have c1 := HCELL.out 1 _ rfl _ HV2.out
  have c2 := HCELL.out 2 _ rfl _ HV2.out
  have HB2 := xh (HBN.out.trans (HV2.out.mono HBN.out.size))
  have HCELL2 : Hid (∀ (f : Nat) (v : Value), (yy0 ⟨ak, ai, ap, an, ad, aA, aC, ao⟩)[f]? = some v → ∀ X : World, Below v2.heap.size v2 X → X.cell? ⟨w.heap.size, f, none⟩ = some v) := xh (fun f v hf X h => HCELL.out f v hf X (HV2.out.trans (h.mono HV2.out.size)))
  have c0 := HCELL2.out 0 _ rfl _ (Below.refl _ _)
  have c3 := HCELL2.out 3 _ rfl _ (Below.refl _ _)
  have c4 := HCELL2.out 4 _ rfl _ (Below.refl _ _)
  have c5 := HCELL2.out 5 _ rfl _ (Below.refl _ _)
  clear HCELL HV0 HV1 HV2 HBN HWN d1 d2 GM GL
  by_cases j1 : ai < 1
  ·have HF := xh (HIB.out j1)
   go_wp2
   go_ret
   exact ⟨by rw [HF.out]; rfl, HB2.out⟩
  by_cases j2 : 1099511627776 < ai
  ·have HF := xh (HIC.out j2)
   go_wp2
   go_ret
   exact ⟨by rw [HF.out]; rfl, HB2.out⟩
  by_cases j3 : ap < 0
  ·have HF := xh (HPL.out j3)
   go_wp2
   go_ret
   exact ⟨by rw [HF.out]; rfl, HB2.out⟩
  by_cases j4 : 1099511627776 < ap
  ·have HF := xh (HPU.out j4)
   go_wp2
   go_ret
   exact ⟨by rw [HF.out]; rfl, HB2.out⟩
  have HF := xh (HEND.out (by omega) rfl (by omega) (by omega))
  clear HEND HIB HIC HPL HPU HKL HKU HSF i1 i2
  go_wp2_with fail
  refine (GT.out _).mono ?_
  rintro e v3 ⟨rfl, hb3⟩
  have HB3 := xh (HB2.out.trans (hb3.mono HB2.out.size))
  have c3 := HCELL2.out 3 _ rfl _ hb3
  clear c0 c1 c2 c4 c5
  cases st with
  | false =>
   go_wp2
   go_ret
   exact ⟨by rw [HF.out]; rfl, HB3.out⟩
  | true =>
   go_wp2_with fail
   refine (GN.out _).mono ?_
   rintro e v4 ⟨rfl, hb4⟩
   have HB4 := xh (HB3.out.trans (hb4.mono HB3.out.size))
   go_wp2
   go_ret
   exact ⟨by rw [HF.out]; simp, HB4.out⟩
theorem yy4.pre {w : World} {A : Option Addr} {l m : List Value} (h : yy4 w A (l ++ m)) : yy4 w A l := by
 rcases h with h | ⟨b, off, hA, hb, h⟩
 ·exact .inl (List.append_eq_nil_iff.1 h).1
 ·exact .inr ⟨b, off, hA, hb, fun j v hv => h j v (by rw [List.getElem?_append_left (List.getElem?_eq_some_iff.1 hv).1]; exact hv)⟩
theorem ActsAt.take {w : World} {A : Option Addr} {l : List ActV} (h : ActsAt w A l) (k : Nat) : ActsAt w A (l.take k) := by
 refine ⟨yy4.pre (m := (l.drop k).flatMap yy0) ?_, fun y hy => h.2 y (List.mem_of_mem_take hy)⟩
 rw [← List.flatMap_append, List.take_append_drop]
 exact h.1
theorem elem_acts : Tryd.prog.elem 23 = 46 := by kernel_rfl
theorem yy587 (w : World) : (sizeOf 46).run Tryd.prog w = .ok 6 w := Tryd.sizeOf46 w
def aHigh (A : Option Addr) (c : Nat) : Option Addr := if c = 0 then A else A.map (·.add (0 * 6))
theorem yy517 (b off : Nat) (c : Nat) : aHigh (some ⟨b, off, none⟩) c = some ⟨b, off, none⟩ := by
 unfold aHigh
 split
 ·rfl
 ·rw [Nat.zero_mul, Option.map_some, Go.WideShapes.add_plain, Nat.add_zero]
theorem yy588 (A : Option Addr) (n c k : Nat) (hk : k ≤ c) (w : World) : (Instr.slice 23 (.slice A n c) none (some (.int .i64 (k : Int))) none).run Tryd.prog w = .ok (.slice (aHigh A c) k c) w := by
 rw [run_slice_h (P := Tryd.prog) (w := w) 23 A n c (by rw [elem_acts]; exact Tryd.underlying23) .i64 (k : Int) (by omega) (by omega), elem_acts, yy587]
 simp [Result.andThen, sliced, aHigh]
theorem yy691 (b off n c k : Nat) (hk : k ≤ c) (w : World) : (Instr.slice 23 (.slice (some ⟨b, off, none⟩) n c) none (some (.int .i64 (k : Int))) none).run Tryd.prog w = .ok (.slice (some ⟨b, off, none⟩) k c) w := by
 rw [yy588 _ _ _ _ hk, yy517]
theorem no_ops {a : ActV} (h : ¬ ABad a) (h4 : a.kind ≠ 4) : a.ops = [] := by
 have e : aKey a = aKey (aPlain a) := by
  by_cases g : aKey a = aKey (aPlain a)
  ·exact g
  ·exact absurd (.inr (.inr (.inl g))) h
 have e2 : a.ops = (aPlain a).ops := by
  simp only [aKey, Prod.mk.injEq] at e
  exact e.2.2.2.2.2
 rw [e2, aPlain]
 split
 ·rfl
 split
 ·rfl
 split
 ·rfl
 ·rfl
theorem yy589 : rCheck [] = 0 := by
 have hn : Nrm [] := fun i c h => by simp at h
 rw [rCheck, if_neg (by simp), yy123 hn, if_neg (by simp), if_neg (by simp [rBase, rOut])]
theorem yy746 {pre r : List ActV} {a : ActV} {n : Nat} (h : wholeB a = false) : chkR pre (a :: r) n = 1 := by
 refine yy493 ?_
 by_cases g : ABad a
 ·exact g
 ·rw [yy295 g] at h; cases h
theorem yy102 {a : ActV} (h : wholeB a = true) : ¬ ABad a := fun g => by rw [yy390 g] at h; cases h
theorem yy747 {pre r : List ActV} {a : ActV} {n : Nat} (h : wholeB a = true) (he : rCheck a.ops ≠ 0) : chkR pre (a :: r) n = (rCheck a.ops : Int) := by
 have g := yy102 h
 by_cases h4 : a.kind = 4
 ·exact yy332 g h4 he
 ·rw [no_ops g h4, yy589] at he
  exact absurd rfl he
theorem any_ed {pre : List ActV} {id : Int} : pre.any (edB id) = true ↔ ∃ x ∈ pre, x.kind = 4 ∧ x.id = id := by
 rw [List.any_eq_true]
 constructor
 ·rintro ⟨x, hx, h⟩
  exact ⟨x, hx, of_decide_eq_true h⟩
 ·rintro ⟨x, hx, h⟩
  exact ⟨x, hx, decide_eq_true h⟩
theorem yy590 {pre r : List ActV} {a : ActV} {n : Nat} (h : wholeB a = true) (he : rCheck a.ops = 0) (h4 : a.kind = 4) (hp : pre.any (edB a.id) = true) : chkR pre (a :: r) n = 1 :=
 yy289 (yy102 h) h4 he (any_ed.1 hp)
theorem yy692 {pre r : List ActV} {a : ActV} {n : Nat} (h : wholeB a = true) (he : rCheck a.ops = 0) (hp : a.kind = 4 → pre.any (edB a.id) = false) : chkR pre (a :: r) n = chkR (pre ++ [a]) r (n + insK a.ops) := by
 have g := yy102 h
 by_cases h4 : a.kind = 4
 ·rw [yy743 he]
  refine yy257 g h4 he fun k => ?_
  have := any_ed.2 k
  rw [hp h4] at this
  cases this
 ·rw [no_ops g h4, show insK [] = 0 from rfl, Nat.add_zero]
  exact yy256 g h4
set_option maxHeartbeats 8000000 in
set_option maxRecDepth 100000 in
theorem yy205 (A : Option Addr) (c : Nat) (l : List ActV) (hl : l.length ≤ maxLen) (hcap : l.length ≤ c) (hg : ∀ a ∈ l, ActOk a) (w : World) (hA : ActsAt w A l) :
  Calls Tryd.prog 34 #[.slice A l.length c] w fun e w' => e = .returned (.int .i64 (rChk l)) ∧ Below w.heap.size w w' := by
 unfold maxLen at hl
 have HA := xh hA; clear hA
 have HG := xh hg; clear hg
 obtain ⟨T, HT⟩ : ∃ T, Hid (rChk l = T) := ⟨_, xh rfl⟩
 rw [HT.out]
 by_cases h20 : 20 < l.length
 ·have HF : Hid (T = 3) := xh (by rw [← HT.out]; exact yy333 h20)
  have h20i : (20 : Int) < (l.length : Int) := by omega
  go_enter Tryd.func34, Tryd.ntmps34
  go_wp2
  go_ret
  exact ⟨by rw [HF.out]; rfl, Below.refl _ _⟩
 have h20i : ¬ (20 : Int) < (l.length : Int) := by omega
 have HC0 : Hid (chkR [] l 0 = T) := xh (by rw [← HT.out]; exact (yy199 h20).symm)
 have HIN := xh (fun w (h : ActsAt w A l) => yy346 A c l (by omega) HG.out w h)
 go_enter Tryd.func34, Tryd.ntmps34
 go_wp2
 go_loopw [3, 4, 5, 11] (fun s3 s4 s5 i wr => ∃ k : Nat, k ≤ l.length ∧ s3 = s3 ∧ s4 = s4 ∧ s5 = s5 ∧ i = .int .i64 (k : Int) ∧ Hid (chkR (l.take k) (l.drop k) (insA (l.take k)) = T) ∧ Hid (Below w.heap.size w wr)) (fun _ _ _ i _ => l.length - (intOf i).toNat)
 case atStart => exact ⟨0, Nat.zero_le _, rfl, rfl, rfl, rfl, xh (by rw [List.take_zero, List.drop_zero]; exact HC0.out), xh (Below.refl _ _)⟩
 case round =>
  clear HC0
  obtain ⟨k, hk, _, _, _, rfl, HCK, HBEL⟩ := hrel
  obtain ⟨wo, hwo⟩ : ∃ x, x = wr := ⟨wr, rfl⟩
  subst hwo
  by_cases hlt : k < l.length
  ·obtain ⟨b, off, rfl, _⟩ := HA.out.form (by omega)
   have hltI : (k : Int) < (l.length : Int) := by omega
   obtain ⟨z0, z1, z2, z3, z4, z5⟩ := (HA.out.below HBEL.out).at_ hlt
   have HCO := xh ((HA.out.below HBEL.out).2 _ (List.getElem_mem hlt))
   have HOK := xh (HG.out _ (List.getElem_mem hlt))
   have HTK : Hid (l.take k ++ [l[k]] = l.take (k + 1)) := xh (List.take_succ_eq_append_getElem hlt).symm
   have HCK2 : Hid (chkR (l.take k) (l[k] :: l.drop (k + 1)) (insA (l.take k)) = T) := xh (by rw [← List.drop_eq_getElem_cons hlt]; exact HCK.out)
   have HIA : Hid (insA (l.take (k + 1)) = insA (l.take k) + insK l[k].ops) := xh (yy391 hlt)
   have HPRE : Hid (∀ W, Below w.heap.size w W → ActsAt W (some ⟨b, off, none⟩) (l.take k)) := xh (fun W h => (HA.out.below h).take k)
   have HTL : Hid ((l.take k).length = k) := xh (by rw [List.length_take]; omega)
   clear HCK
   generalize l[k] = a at z0 z1 z2 z3 z4 z5 HCO HOK HTK HCK2 HIA
   have GW := xh (fun (W : World) (h : Below wo.heap.size wo W) => yy585 a HOK.out.1 W (HCO.out.below h))
   have GO := xh (fun (W : World) (h : Below wo.heap.size wo W) => yy151 a.opsA a.opsC a.ops (by have := HOK.out.1.2.2.2.2.2; omega) HOK.out.2.2.1 W (HCO.out.below h))
   have GE := xh (fun (W : World) (h : Below w.heap.size w W) => yy516 (some ⟨b, off, none⟩) c (l.take k) a.id W (HPRE.out W h) (by rw [HTL.out]; omega))
   rw [HTL.out] at GE
   have hkc : k ≤ c := by omega
   have hsl := fun W => yy691 b off l.length c k hkc W
   have hkci : (k : Int) ≤ (c : Int) := by omega
   obtain ⟨wb, HWB⟩ : ∃ x, Hid (wholeB a = x) := ⟨_, xh rfl⟩
   obtain ⟨rc, HRC⟩ : ∃ x, Hid (rCheck a.ops = x) := ⟨_, xh rfl⟩
   obtain ⟨ed, HED⟩ : ∃ x, Hid ((l.take k).any (edB a.id) = x) := ⟨_, xh rfl⟩
   have HBAD : Hid (wb = false → T = 1) := xh (fun h => by rw [← HCK2.out]; exact yy746 (by rw [HWB.out]; exact h))
   have HERR : Hid (wb = true → rc ≠ 0 → T = (rc : Int)) := xh (fun h g => by rw [← HCK2.out, ← HRC.out]; exact yy747 (by rw [HWB.out]; exact h) (by rw [HRC.out]; exact g))
   have HTWICE : Hid (wb = true → rc = 0 → a.kind = 4 → ed = true → T = 1) := xh (fun h g k4 e => by rw [← HCK2.out]; exact yy590 (by rw [HWB.out]; exact h) (by rw [HRC.out]; exact g) k4 (by rw [HED.out]; exact e))
   have HNEXT : Hid (wb = true → rc = 0 → (a.kind = 4 → ed = false) → chkR (l.take (k + 1)) (l.drop (k + 1)) (insA (l.take (k + 1))) = T) := xh (fun h g e => by
    rw [← HCK2.out, yy692 (by rw [HWB.out]; exact h) (by rw [HRC.out]; exact g) (by rw [HED.out]; exact e), HTK.out, HIA.out])
   rw [HWB.out] at GW
   rw [HRC.out] at GO
   rw [HED.out] at GE
   clear HWB HRC HED HCK2 HIA HTK HPRE HTL
   unfold yy0 at GW
   obtain ⟨ak, ai, ap, an, ad, aA, aC, ao⟩ := a
   simp only at z0 z1 z2 z3 z4 z5 HCO HOK GW GO GE HTWICE HNEXT
   obtain ⟨wn, HWN⟩ : ∃ x, Hid (wo.alloc (.cells #[.int .i64 ak, .int .i64 ai, .int .i64 ap, .string (bstr an), .bool ad, .slice aA ao.length aC] 46) = x) := ⟨_, xh rfl⟩
   have HCELL : Hid (∀ (f : Nat) (v : Value), (yy0 ⟨ak, ai, ap, an, ad, aA, aC, ao⟩)[f]? = some v → ∀ X : World, Below wn.heap.size wn X → X.cell? ⟨wo.heap.size, f, none⟩ = some v) := xh (fun f v hf X h => by
    have e : wn.cell? ⟨wo.heap.size, f, none⟩ = some v := by
     rw [← HWN.out, cell_of_row _ _ _ _ _ _ (heap_alloc_new wo _)]
     simpa [yy0] using hf
    exact (h.cell (World.block_lt_of_cell? _ _ e)).trans e)
   have HON : Hid (Below wo.heap.size wo wn) := xh (by
    rw [← HWN.out]
    exact (Below.refl _ _).alloc (Nat.le_refl _) _)
   go_upto_region 6 with fail
   rw [HWN.out]
   have e0 := HCELL.out 0 _ rfl _ (Below.refl _ _)
   have e1 := HCELL.out 1 _ rfl _ (Below.refl _ _)
   have e2 := HCELL.out 2 _ rfl _ (Below.refl _ _)
   have e3 := HCELL.out 3 _ rfl _ (Below.refl _ _)
   have e4 := HCELL.out 4 _ rfl _ (Below.refl _ _)
   have e5 := HCELL.out 5 _ rfl _ (Below.refl _ _)
   clear z0 z1 z2 z3 z4 z5
   go_wp2_with fail
   refine (GW.out _ HON.out).mono ?_
   rintro e v1 ⟨rfl, hb1⟩
   have HV1 := xh (HON.out.trans (hb1.mono HON.out.size))
   have f5 := HCELL.out 5 _ rfl _ hb1
   have HN1 := xh hb1
   clear e0 e1 e2 e3 e4 e5 hb1
   cases wb with
   | false =>
    have HF := xh (HBAD.out rfl)
    go_wp2
    go_ret
    exact ⟨by rw [HF.out]; rfl, HBEL.out.trans (HV1.out.mono HBEL.out.size)⟩
   | true =>
    replace HERR := xh (HERR.out rfl)
    replace HTWICE := xh (HTWICE.out rfl)
    replace HNEXT := xh (HNEXT.out rfl)
    clear HBAD
    go_wp2_with fail
    refine (GO.out _ HV1.out).mono ?_
    rintro e v2 ⟨rfl, hb2⟩
    have HV2 := xh (HV1.out.trans (hb2.mono HV1.out.size))
    have HN2 := xh (HN1.out.trans (hb2.mono HN1.out.size))
    clear f5 hb2
    by_cases hrc : rc = 0
    rotate_left
    ·have HF := xh (HERR.out hrc)
     have hrn : ((rc : Int) != 0) = true := bne_iff_ne.2 (by omega)
     clear hrc
     go_wp2
     go_ret
     exact ⟨by rw [HF.out]; rfl, HBEL.out.trans (HV2.out.mono HBEL.out.size)⟩
    subst hrc
    replace HTWICE := xh (HTWICE.out rfl)
    replace HNEXT := xh (HNEXT.out rfl)
    clear HERR
    go_upto_region 11 with fail
    have HD : Hid (Below wn.heap.size wn v2.drew) := xh (Below.drew HN2.out)
    have HDW : Hid (Below w.heap.size w v2.drew) := xh (Below.drew (HBEL.out.trans (HV2.out.mono HBEL.out.size)))
    by_cases h4 : ak = 4
    ·subst h4
     replace HTWICE := xh (HTWICE.out rfl)
     replace HNEXT := xh (fun h => HNEXT.out (fun _ => h))
     refine wp_region_lit sc2 (by kernel_rfl) (by kernel_rfl) (fun _ _ d _ _ h => by cases d <;> exact h) ?_
     simp only [picked, sc2, xmc, xmn, xgs, xgz, xgd]
     generalize v2.drew = vd at HD HDW ⊢
     have e0 := fun e : Ext vd => HCELL.out 0 _ rfl e.val (HD.out.trans (e.property.mono HD.out.size))
     have e1 := fun e : Ext vd => HCELL.out 1 _ rfl e.val (HD.out.trans (e.property.mono HD.out.size))
     repeat (first | (refine yy3 (by rfl) (fun K hK => ?_); go_big_quiet_op; refine hK _ ?_; clear hK K) | (refine yy5 (by rfl) ?_; simp only [Act.put, xsa, xsz, xss]) | (simp only [xb9, xb0, xb7, xb8, xb6, xb5, xb4, xb2, xb1, xb3]))
     refine yy16 (by rfl) (fun K hK => ?_)
     go_simp
     refine (GE.out _ HDW.out).mono ?_
     rintro e v3 ⟨rfl, hb3⟩
     have HB3 := xh (HDW.out.trans (hb3.mono HDW.out.size))
     refine hK _ _ hb3 ?_
     clear hK K hb3 e0 e1
     cases ed with
     | true =>
      have HF := xh (HTWICE.out rfl)
      repeat (first | (refine yy3 (by rfl) (fun K hK => ?_); go_big_quiet_op; refine hK _ ?_; clear hK K) | (refine yy5 (by rfl) ?_; simp only [Act.put, xsa, xsz, xss]) | (simp only [xb9, xb0, xb7, xb8, xb6, xb5, xb4, xb2, xb1, xb3]))
      refine yy39 ?_
      go_wp2
      go_ret
      exact ⟨by rw [HF.out]; rfl, HB3.out⟩
     | false =>
      have HF := xh (HNEXT.out rfl)
      repeat (first | (refine yy3 (by rfl) (fun K hK => ?_); go_big_quiet_op; refine hK _ ?_; clear hK K) | (refine yy5 (by rfl) ?_; simp only [Act.put, xsa, xsz, xss]) | (simp only [xb9, xb0, xb7, xb8, xb6, xb5, xb4, xb2, xb1, xb3]))
      refine yy39 ?_
      go_wp2
      go_roundw
      case rel => exact ⟨k + 1, by omega, trivial, trivial, trivial, by go_num, HF, HB3⟩
      case measure => simp [intOf]; omega
    ·have d4 : (ak == 4) = false := xn h4
     have HF := xh (HNEXT.out fun h => absurd h h4)
     clear h4
     refine wp_region_lit sc2 (by kernel_rfl) (by kernel_rfl) (fun _ _ d _ _ h => by cases d <;> exact h) ?_
     simp only [picked, sc2, xmc, xmn, xgs, xgz, xgd]
     generalize v2.drew = vd at HD HDW ⊢
     have e0 := fun e : Ext vd => HCELL.out 0 _ rfl e.val (HD.out.trans (e.property.mono HD.out.size))
     repeat (first | (refine yy3 (by rfl) (fun K hK => ?_); go_big_quiet_op; refine hK _ ?_; clear hK K) | (refine yy5 (by rfl) ?_; simp only [Act.put, xsa, xsz, xss]) | (simp only [d4, xb9, xb0, xb7, xb8, xb6, xb5, xb4, xb2, xb1, xb3]))
     refine yy39 ?_
     go_wp2
     go_roundw
     case rel => exact ⟨k + 1, by omega, trivial, trivial, trivial, by go_num, HF, HDW⟩
     case measure => simp [intOf]; omega
  ·obtain rfl : k = l.length := by omega
   have hend : (if 2000 < insA l then (3 : Int) else 0) = T := by
    have := HCK.out
    rw [List.take_length, List.drop_length, chkR] at this
    exact this
   obtain ⟨n, HNN⟩ : ∃ n, Hid (insA l = n) := ⟨_, xh rfl⟩
   rw [HNN.out] at hend HIN
   go_wp2_with fail
   refine (HIN.out _ (HA.out.below HBEL.out)).mono ?_
   rintro e v1 ⟨rfl, hb1⟩
   have HB1 := xh (HBEL.out.trans (hb1.mono HBEL.out.size))
   clear hb1
   by_cases hn : 2000 < n
   ·rw [if_pos hn] at hend
    have HF := xh hend
    have hni : (2000 : Int) < (n : Int) := by omega
    clear hend
    go_wp2
    go_ret
    exact ⟨by rw [← HF.out]; rfl, HB1.out⟩
   ·rw [if_neg hn] at hend
    have HF := xh hend
    have hni : ¬ (2000 : Int) < (n : Int) := by omega
    clear hend
    go_wp2
    go_ret
    exact ⟨by rw [← HF.out]; rfl, HB1.out⟩
end Go.Proofs.YtjpjdkdbgjipnaaDoor
