/- The document's own DoAll of edits alone, with where the outcome lies. Conditions: a tree; acts that may be looked at. (Merged of 2 texts.) -/
import Derived.Test.YtjpjdkdbgjipnaaDoorV18
import Derived.Test.YtjpjdkdbgjipnaaDoorV22
import Derived.Test.YtjpjdkdbgjipnaaDoorV40
import Derived.Test.YtjpjdkdbgjipnaaDoorV44
import Derived.Test.YtjpjdkdbgjipnaaDoorV12
import Derived.Test.YtjpjdkdbgjipnaaDoorV43
import Derived.Test.YtjpjdkdbgjipnaaDoorV4
import Derived.BigQuiet
import Derived.Deep.CutRange
import Derived.Test.YtjpjdkdbgjipnaaDoorV41
namespace Go.Proofs.YtjpjdkdbgjipnaaDoor
open Go.RowKit Go.Deep
theorem yy360 (l : List CompV) (k : Nat) : insT (l.take k) ≤ tlen l := by
 refine Nat.le_trans (yy628 _) ?_
 have h : tlen l = tlen (l.take k) + tlen (l.drop k) := by
  have e := List.take_append_drop k l
  unfold tlen
  rw [← List.length_append, ← List.flatMap_append, e]
 omega
set_option maxHeartbeats 40000000 in
set_option maxRecDepth 100000 in
theorem yy540 (A : Option Addr) (c : Nat) (l : List ActV) (hl : l.length ≤ maxLen) (hg : ∀ a ∈ l, ActOk a) (w : World) (hA : ActsAt w A l) :
  Calls Tryd.prog 25 #[.slice A l.length c] w fun e w' => e = .returned (.int .i64 (rChk l)) ∧ Below w.heap.size w w' := by
 unfold maxLen at hl
 have HA := xh hA; clear hA
 obtain ⟨T, HT⟩ : ∃ T, Hid (rChk l = T) := ⟨_, xh rfl⟩
 rw [HT.out]
 by_cases h20 : 20 < l.length
 ·have HF : Hid (T = 3) := xh (by rw [← HT.out]; exact yy333 h20)
  have h20i : (20 : Int) < (l.length : Int) := by omega
  go_enter Tryd.func25, Tryd.ntmps25
  go_wp2
  go_ret
  exact ⟨by rw [HF.out]; rfl, Below.refl _ _⟩
 have h20i : ¬ (20 : Int) < (l.length : Int) := by omega
 have HC0 : Hid (chkR [] l 0 = T) := xh (by rw [← HT.out]; exact (yy199 h20).symm)
 go_enter Tryd.func25, Tryd.ntmps25
 go_wp2
 go_loopw [3, 4, 5, 6, 7, 8] (fun n i s5 s6 s7 s8 wr => ∃ k N : Nat, k ≤ l.length ∧ n = .int .i64 (N : Int) ∧ i = .int .i64 (k : Int) ∧ s5 = s5 ∧ s6 = s6 ∧ s7 = s7 ∧ s8 = s8 ∧ N ≤ k * 4000 ∧ Hid (chkR (l.take k) (l.drop k) N = T) ∧ Hid (Below w.heap.size w wr)) (fun _ i _ _ _ _ _ => l.length - (intOf i).toNat)
 case atStart => exact ⟨0, 0, Nat.zero_le _, rfl, rfl, rfl, rfl, rfl, rfl, by omega, xh (by rw [List.take_zero, List.drop_zero]; exact HC0.out), xh (Below.refl _ _)⟩
 case round =>
  clear HC0
  obtain ⟨k, N, hk, rfl, rfl, _, _, _, _, hN, HCK, HBEL⟩ := hrel
  obtain ⟨wo, hwo⟩ : ∃ x, x = wr := ⟨wr, rfl⟩
  subst hwo
  by_cases hlt : k < l.length
  ·have HAW := xh (HA.out.below HBEL.out)
   obtain ⟨b, off, rfl, _⟩ := HA.out.form (by omega)
   obtain ⟨z0, z1, z2, z3, z4, z5⟩ := HAW.out.at_ hlt
   have HCO := xh (HA.out.2 _ (List.getElem_mem hlt))
   have hki : (k : Int) < (l.length : Int) := by omega
   have HOK := xh (hg _ (List.getElem_mem hlt))
   have HCK2 : Hid (chkR (l.take k) (l[k] :: l.drop (k + 1)) N = T) := xh (by rw [← List.drop_eq_getElem_cons hlt]; exact HCK.out)
   have HTKE : Hid (l.take k ++ [l[k]] = l.take (k + 1)) := xh (List.take_succ_eq_append_getElem hlt).symm
   clear HCK
   generalize l[k] = a at z0 z1 z2 z3 z4 z5 HCO HOK HCK2 HTKE
   have HBAD : Hid (ABad a → T = 1) := xh (fun h => by rw [← HCK2.out]; exact yy493 h)
   have HSKIP : Hid (¬ ABad a → a.kind ≠ 4 → chkR (l.take (k + 1)) (l.drop (k + 1)) N = T) := xh (fun h h4 => by rw [← HTKE.out, ← HCK2.out]; exact (yy256 h h4).symm)
   have HERR : Hid (¬ ABad a → a.kind = 4 → rCheck a.ops ≠ 0 → T = (rCheck a.ops : Int)) := xh (fun h h4 he => by rw [← HCK2.out]; exact yy332 h h4 he)
   have HTWICE0 : Hid (¬ ABad a → a.kind = 4 → rCheck a.ops = 0 → (∃ x ∈ l.take k, x.kind = 4 ∧ x.id = a.id) → T = 1) := xh (fun h h4 he hp => by rw [← HCK2.out]; exact yy289 h h4 he hp)
   have HMORE : Hid (¬ ABad a → a.kind = 4 → rCheck a.ops = 0 → ¬ (∃ x ∈ l.take k, x.kind = 4 ∧ x.id = a.id) → chkR (l.take (k + 1)) (l.drop (k + 1)) (N + insT a.ops) = T) := xh (fun h h4 he hp => by rw [← HTKE.out, ← HCK2.out]; exact (yy257 h h4 he hp).symm)
   clear HCK2 HTKE
   obtain ⟨bd, HBD⟩ : ∃ bd, Hid ((ABad a → bd = true) ∧ (¬ ABad a → bd = false)) := by
    by_cases h : ABad a
    ·exact ⟨true, xh ⟨fun _ => rfl, fun g => absurd h g⟩⟩
    ·exact ⟨false, xh ⟨fun g => absurd g h, fun _ => rfl⟩⟩
   obtain ⟨ak, ai, ap, an, ad, aA, aC, ao⟩ := a
   simp only at z0 z1 z2 z3 z4 z5 HCO HERR HSKIP HTWICE0 HMORE
   go_upto_region 8 with fail
   obtain ⟨wn, HWN⟩ : ∃ x, Hid (wo.alloc (.cells #[.int .i64 ak, .int .i64 ai, .int .i64 ap, .string (bstr an), .bool ad, .slice aA ao.length aC] 46) = x) := ⟨_, xh rfl⟩
   rw [HWN.out]
   have HNC : Hid (∀ (f : Nat) (v : Value), (yy0 ⟨ak, ai, ap, an, ad, aA, aC, ao⟩)[f]? = some v → wn.drew.cell? ⟨wo.heap.size, f, none⟩ = some v) := by
    intro f v hf
    show wn.cell? _ = _
    rw [← HWN.out, cell_of_row _ _ _ _ _ _ (heap_alloc_new wo _)]
    simpa [yy0] using hf
   have HBN : Hid (Below w.heap.size w wn) := by
    show Below _ _ _
    rw [← HWN.out]
    exact HBEL.out.alloc HBEL.out.size _
   have hsn : wo.heap.size < wn.heap.size := by rw [← HWN.out]; simp
   clear HAW
   go_cut [72] from 12 to 118 (fun s72 wc => Below wn.heap.size wn wc ∧ s72 = .bool bd)
   case first =>
    have GN := xh (fun v => yy416 an HOK.out.1.2.2.2.1.1 HOK.out.1.2.2.2.1.2 v)
    have GP := xh (fun v => yy342 ⟨ak, ai, ap, an, ad, aA, aC, ao⟩ v)
    have GS := xh (fun (v : World) (h : Below wn.drew.heap.size wn.drew v) => yy148 ⟨ak, ai, ap, an, ad, aA, aC, ao⟩ (aPlain ⟨ak, ai, ap, an, ad, aA, aC, ao⟩) HOK.out.1 (Good.plain HOK.out.1) v (((HCO.out.below HBN.out).drew).below h) (comps_plain (((HCO.out.below HBN.out).drew).below h)))
    obtain ⟨b, HPB⟩ : ∃ b, Hid (aPlain ⟨ak, ai, ap, an, ad, aA, aC, ao⟩ = b) := ⟨_, xh rfl⟩
    rw [HPB.out] at GS GP
    unfold yy0 at GS GP
    have HCELL : Hid (∀ (f : Nat) (v : Value), (yy0 ⟨ak, ai, ap, an, ad, aA, aC, ao⟩)[f]? = some v → ∀ X : World, Below wn.drew.heap.size wn.drew X → X.cell? ⟨wo.heap.size, f, none⟩ = some v) := xh (fun f v hf X h => (h.cell (World.block_lt_of_cell? _ _ (HNC.out f v hf))).trans (HNC.out f v hf))
    by_cases i1 : ak < 1
    ·have HF := xh (HBD.out.1 (.inl i1))
     have d1 : decide (ak < 1) = true := decide_eq_true i1
     refine wp_region_lit sc3 (by kernel_rfl) (by kernel_rfl) (fun _ _ d _ _ h => by cases d <;> exact h) ?_
     simp only [picked, sc3, xmc, xmn, xgs, xgz, xgd]
     have HV0 : Hid (Below wn.drew.heap.size wn.drew wn.drew) := xh (Below.refl _ _)
     have e0 := fun e : Ext wn.drew => HCELL.out 0 _ rfl e.val (HV0.out.trans (e.property.mono HV0.out.size))
     have e1 := fun e : Ext wn.drew => HCELL.out 1 _ rfl e.val (HV0.out.trans (e.property.mono HV0.out.size))
     have e2 := fun e : Ext wn.drew => HCELL.out 2 _ rfl e.val (HV0.out.trans (e.property.mono HV0.out.size))
     have e3 := fun e : Ext wn.drew => HCELL.out 3 _ rfl e.val (HV0.out.trans (e.property.mono HV0.out.size))
     have e4 := fun e : Ext wn.drew => HCELL.out 4 _ rfl e.val (HV0.out.trans (e.property.mono HV0.out.size))
     have e5 := fun e : Ext wn.drew => HCELL.out 5 _ rfl e.val (HV0.out.trans (e.property.mono HV0.out.size))
     repeat (first | (refine yy3 (by rfl) (fun K hK => ?_); go_big_quiet_op; refine hK _ ?_; clear hK K) | (refine yy5 (by rfl) ?_; simp only [Act.put, xsa, xsz, xss]) | (simp only [d1, xb9, xb0, xb7, xb8, xb6, xb5, xb4, xb2, xb1, xb3]))
     refine yy39 ?_
     go_wp2_with fail
     go_meet
     case rel => exact ⟨(Below.drew (Below.refl wn.heap.size wn)).trans (HV0.out.mono (by simp)), by rw [HF.out]⟩
    have d1 : decide (ak < 1) = false := decide_eq_false i1
    by_cases i2 : 4 < ak
    ·have HF := xh (HBD.out.1 (.inr (.inl i2)))
     have d2 : decide (4 < ak) = true := decide_eq_true i2
     refine wp_region_lit sc3 (by kernel_rfl) (by kernel_rfl) (fun _ _ d _ _ h => by cases d <;> exact h) ?_
     simp only [picked, sc3, xmc, xmn, xgs, xgz, xgd]
     have HV0 : Hid (Below wn.drew.heap.size wn.drew wn.drew) := xh (Below.refl _ _)
     have e0 := fun e : Ext wn.drew => HCELL.out 0 _ rfl e.val (HV0.out.trans (e.property.mono HV0.out.size))
     have e1 := fun e : Ext wn.drew => HCELL.out 1 _ rfl e.val (HV0.out.trans (e.property.mono HV0.out.size))
     have e2 := fun e : Ext wn.drew => HCELL.out 2 _ rfl e.val (HV0.out.trans (e.property.mono HV0.out.size))
     have e3 := fun e : Ext wn.drew => HCELL.out 3 _ rfl e.val (HV0.out.trans (e.property.mono HV0.out.size))
     have e4 := fun e : Ext wn.drew => HCELL.out 4 _ rfl e.val (HV0.out.trans (e.property.mono HV0.out.size))
     have e5 := fun e : Ext wn.drew => HCELL.out 5 _ rfl e.val (HV0.out.trans (e.property.mono HV0.out.size))
     repeat (first | (refine yy3 (by rfl) (fun K hK => ?_); go_big_quiet_op; refine hK _ ?_; clear hK K) | (refine yy5 (by rfl) ?_; simp only [Act.put, xsa, xsz, xss]) | (simp only [d1, d2, xb9, xb0, xb7, xb8, xb6, xb5, xb4, xb2, xb1, xb3]))
     refine yy39 ?_
     go_wp2_with fail
     go_meet
     case rel => exact ⟨(Below.drew (Below.refl wn.heap.size wn)).trans (HV0.out.mono (by simp)), by rw [HF.out]⟩
    have d2 : decide (4 < ak) = false := decide_eq_false i2
    by_cases i3 : aKey ⟨ak, ai, ap, an, ad, aA, aC, ao⟩ = aKey b
    rotate_left
    ·have HF := xh (HBD.out.1 (.inr (.inr (.inl (fun e => i3 (by rw [← HPB.out]; exact e))))))
     rw [yy59 i3] at GS
     refine wp_region_lit sc3 (by kernel_rfl) (by kernel_rfl) (fun _ _ d _ _ h => by cases d <;> exact h) ?_
     simp only [picked, sc3, xmc, xmn, xgs, xgz, xgd]
     have HV0 : Hid (Below wn.drew.heap.size wn.drew wn.drew) := xh (Below.refl _ _)
     have e0 := fun e : Ext wn.drew => HCELL.out 0 _ rfl e.val (HV0.out.trans (e.property.mono HV0.out.size))
     have e1 := fun e : Ext wn.drew => HCELL.out 1 _ rfl e.val (HV0.out.trans (e.property.mono HV0.out.size))
     have e2 := fun e : Ext wn.drew => HCELL.out 2 _ rfl e.val (HV0.out.trans (e.property.mono HV0.out.size))
     have e3 := fun e : Ext wn.drew => HCELL.out 3 _ rfl e.val (HV0.out.trans (e.property.mono HV0.out.size))
     have e4 := fun e : Ext wn.drew => HCELL.out 4 _ rfl e.val (HV0.out.trans (e.property.mono HV0.out.size))
     have e5 := fun e : Ext wn.drew => HCELL.out 5 _ rfl e.val (HV0.out.trans (e.property.mono HV0.out.size))
     repeat (first | (refine yy3 (by rfl) (fun K hK => ?_); go_big_quiet_op; refine hK _ ?_; clear hK K) | (refine yy5 (by rfl) ?_; simp only [Act.put, xsa, xsz, xss]) | (simp only [d1, d2, xb9, xb0, xb7, xb8, xb6, xb5, xb4, xb2, xb1, xb3]))
     refine yy16 (by rfl) (fun K hK => ?_)
     go_simp
     refine (GP.out _).mono ?_
     rintro e v1 ⟨rfl, hb⟩
     have HV1 := xh (HV0.out.trans (hb.mono HV0.out.size))
     refine hK _ _ hb ?_
     clear hK K hb
     clear e0 e1 e2 e3 e4 e5
     repeat (first | (refine yy3 (by rfl) (fun K hK => ?_); go_big_quiet_op; refine hK _ ?_; clear hK K) | (refine yy5 (by rfl) ?_; simp only [Act.put, xsa, xsz, xss]) | (simp only [d1, d2, xb9, xb0, xb7, xb8, xb6, xb5, xb4, xb2, xb1, xb3]))
     refine yy16 (by rfl) (fun K hK => ?_)
     go_simp
     refine (GS.out _ HV1.out).mono ?_
     rintro e v2 ⟨rfl, hb⟩
     have HV2 := xh (HV1.out.trans (hb.mono HV1.out.size))
     refine hK _ _ hb ?_
     clear hK K hb
     have e0 := fun e : Ext v2 => HCELL.out 0 _ rfl e.val (HV2.out.trans (e.property.mono HV2.out.size))
     have e1 := fun e : Ext v2 => HCELL.out 1 _ rfl e.val (HV2.out.trans (e.property.mono HV2.out.size))
     have e2 := fun e : Ext v2 => HCELL.out 2 _ rfl e.val (HV2.out.trans (e.property.mono HV2.out.size))
     have e3 := fun e : Ext v2 => HCELL.out 3 _ rfl e.val (HV2.out.trans (e.property.mono HV2.out.size))
     have e4 := fun e : Ext v2 => HCELL.out 4 _ rfl e.val (HV2.out.trans (e.property.mono HV2.out.size))
     have e5 := fun e : Ext v2 => HCELL.out 5 _ rfl e.val (HV2.out.trans (e.property.mono HV2.out.size))
     repeat (first | (refine yy3 (by rfl) (fun K hK => ?_); go_big_quiet_op; refine hK _ ?_; clear hK K) | (refine yy5 (by rfl) ?_; simp only [Act.put, xsa, xsz, xss]) | (simp only [d1, d2, xb9, xb0, xb7, xb8, xb6, xb5, xb4, xb2, xb1, xb3]))
     refine yy39 ?_
     go_wp2_with fail
     go_meet
     case rel => exact ⟨(Below.drew (Below.refl wn.heap.size wn)).trans (HV2.out.mono (by simp)), by rw [HF.out]⟩
    rw [yy137 i3] at GS
    by_cases i4 : ai < 1
    ·have HF := xh (HBD.out.1 (.inr (.inr (.inr (.inl i4)))))
     have d4 : decide (ai < 1) = true := decide_eq_true i4
     refine wp_region_lit sc3 (by kernel_rfl) (by kernel_rfl) (fun _ _ d _ _ h => by cases d <;> exact h) ?_
     simp only [picked, sc3, xmc, xmn, xgs, xgz, xgd]
     have HV0 : Hid (Below wn.drew.heap.size wn.drew wn.drew) := xh (Below.refl _ _)
     have e0 := fun e : Ext wn.drew => HCELL.out 0 _ rfl e.val (HV0.out.trans (e.property.mono HV0.out.size))
     have e1 := fun e : Ext wn.drew => HCELL.out 1 _ rfl e.val (HV0.out.trans (e.property.mono HV0.out.size))
     have e2 := fun e : Ext wn.drew => HCELL.out 2 _ rfl e.val (HV0.out.trans (e.property.mono HV0.out.size))
     have e3 := fun e : Ext wn.drew => HCELL.out 3 _ rfl e.val (HV0.out.trans (e.property.mono HV0.out.size))
     have e4 := fun e : Ext wn.drew => HCELL.out 4 _ rfl e.val (HV0.out.trans (e.property.mono HV0.out.size))
     have e5 := fun e : Ext wn.drew => HCELL.out 5 _ rfl e.val (HV0.out.trans (e.property.mono HV0.out.size))
     repeat (first | (refine yy3 (by rfl) (fun K hK => ?_); go_big_quiet_op; refine hK _ ?_; clear hK K) | (refine yy5 (by rfl) ?_; simp only [Act.put, xsa, xsz, xss]) | (simp only [d1, d2, d4, xb9, xb0, xb7, xb8, xb6, xb5, xb4, xb2, xb1, xb3]))
     refine yy16 (by rfl) (fun K hK => ?_)
     go_simp
     refine (GP.out _).mono ?_
     rintro e v1 ⟨rfl, hb⟩
     have HV1 := xh (HV0.out.trans (hb.mono HV0.out.size))
     refine hK _ _ hb ?_
     clear hK K hb
     clear e0 e1 e2 e3 e4 e5
     repeat (first | (refine yy3 (by rfl) (fun K hK => ?_); go_big_quiet_op; refine hK _ ?_; clear hK K) | (refine yy5 (by rfl) ?_; simp only [Act.put, xsa, xsz, xss]) | (simp only [d1, d2, d4, xb9, xb0, xb7, xb8, xb6, xb5, xb4, xb2, xb1, xb3]))
     refine yy16 (by rfl) (fun K hK => ?_)
     go_simp
     refine (GS.out _ HV1.out).mono ?_
     rintro e v2 ⟨rfl, hb⟩
     have HV2 := xh (HV1.out.trans (hb.mono HV1.out.size))
     refine hK _ _ hb ?_
     clear hK K hb
     have e0 := fun e : Ext v2 => HCELL.out 0 _ rfl e.val (HV2.out.trans (e.property.mono HV2.out.size))
     have e1 := fun e : Ext v2 => HCELL.out 1 _ rfl e.val (HV2.out.trans (e.property.mono HV2.out.size))
     have e2 := fun e : Ext v2 => HCELL.out 2 _ rfl e.val (HV2.out.trans (e.property.mono HV2.out.size))
     have e3 := fun e : Ext v2 => HCELL.out 3 _ rfl e.val (HV2.out.trans (e.property.mono HV2.out.size))
     have e4 := fun e : Ext v2 => HCELL.out 4 _ rfl e.val (HV2.out.trans (e.property.mono HV2.out.size))
     have e5 := fun e : Ext v2 => HCELL.out 5 _ rfl e.val (HV2.out.trans (e.property.mono HV2.out.size))
     repeat (first | (refine yy3 (by rfl) (fun K hK => ?_); go_big_quiet_op; refine hK _ ?_; clear hK K) | (refine yy5 (by rfl) ?_; simp only [Act.put, xsa, xsz, xss]) | (simp only [d1, d2, d4, xb9, xb0, xb7, xb8, xb6, xb5, xb4, xb2, xb1, xb3]))
     refine yy39 ?_
     go_wp2_with fail
     go_meet
     case rel => exact ⟨(Below.drew (Below.refl wn.heap.size wn)).trans (HV2.out.mono (by simp)), by rw [HF.out]⟩
    have d4 : decide (ai < 1) = false := decide_eq_false i4
    by_cases i5 : 1099511627776 < ai
    ·have HF := xh (HBD.out.1 (.inr (.inr (.inr (.inr (.inl i5))))))
     have d5 : decide (1099511627776 < ai) = true := decide_eq_true i5
     refine wp_region_lit sc3 (by kernel_rfl) (by kernel_rfl) (fun _ _ d _ _ h => by cases d <;> exact h) ?_
     simp only [picked, sc3, xmc, xmn, xgs, xgz, xgd]
     have HV0 : Hid (Below wn.drew.heap.size wn.drew wn.drew) := xh (Below.refl _ _)
     have e0 := fun e : Ext wn.drew => HCELL.out 0 _ rfl e.val (HV0.out.trans (e.property.mono HV0.out.size))
     have e1 := fun e : Ext wn.drew => HCELL.out 1 _ rfl e.val (HV0.out.trans (e.property.mono HV0.out.size))
     have e2 := fun e : Ext wn.drew => HCELL.out 2 _ rfl e.val (HV0.out.trans (e.property.mono HV0.out.size))
     have e3 := fun e : Ext wn.drew => HCELL.out 3 _ rfl e.val (HV0.out.trans (e.property.mono HV0.out.size))
     have e4 := fun e : Ext wn.drew => HCELL.out 4 _ rfl e.val (HV0.out.trans (e.property.mono HV0.out.size))
     have e5 := fun e : Ext wn.drew => HCELL.out 5 _ rfl e.val (HV0.out.trans (e.property.mono HV0.out.size))
     repeat (first | (refine yy3 (by rfl) (fun K hK => ?_); go_big_quiet_op; refine hK _ ?_; clear hK K) | (refine yy5 (by rfl) ?_; simp only [Act.put, xsa, xsz, xss]) | (simp only [d1, d2, d4, d5, xb9, xb0, xb7, xb8, xb6, xb5, xb4, xb2, xb1, xb3]))
     refine yy16 (by rfl) (fun K hK => ?_)
     go_simp
     refine (GP.out _).mono ?_
     rintro e v1 ⟨rfl, hb⟩
     have HV1 := xh (HV0.out.trans (hb.mono HV0.out.size))
     refine hK _ _ hb ?_
     clear hK K hb
     clear e0 e1 e2 e3 e4 e5
     repeat (first | (refine yy3 (by rfl) (fun K hK => ?_); go_big_quiet_op; refine hK _ ?_; clear hK K) | (refine yy5 (by rfl) ?_; simp only [Act.put, xsa, xsz, xss]) | (simp only [d1, d2, d4, d5, xb9, xb0, xb7, xb8, xb6, xb5, xb4, xb2, xb1, xb3]))
     refine yy16 (by rfl) (fun K hK => ?_)
     go_simp
     refine (GS.out _ HV1.out).mono ?_
     rintro e v2 ⟨rfl, hb⟩
     have HV2 := xh (HV1.out.trans (hb.mono HV1.out.size))
     refine hK _ _ hb ?_
     clear hK K hb
     have e0 := fun e : Ext v2 => HCELL.out 0 _ rfl e.val (HV2.out.trans (e.property.mono HV2.out.size))
     have e1 := fun e : Ext v2 => HCELL.out 1 _ rfl e.val (HV2.out.trans (e.property.mono HV2.out.size))
     have e2 := fun e : Ext v2 => HCELL.out 2 _ rfl e.val (HV2.out.trans (e.property.mono HV2.out.size))
     have e3 := fun e : Ext v2 => HCELL.out 3 _ rfl e.val (HV2.out.trans (e.property.mono HV2.out.size))
     have e4 := fun e : Ext v2 => HCELL.out 4 _ rfl e.val (HV2.out.trans (e.property.mono HV2.out.size))
     have e5 := fun e : Ext v2 => HCELL.out 5 _ rfl e.val (HV2.out.trans (e.property.mono HV2.out.size))
     repeat (first | (refine yy3 (by rfl) (fun K hK => ?_); go_big_quiet_op; refine hK _ ?_; clear hK K) | (refine yy5 (by rfl) ?_; simp only [Act.put, xsa, xsz, xss]) | (simp only [d1, d2, d4, d5, xb9, xb0, xb7, xb8, xb6, xb5, xb4, xb2, xb1, xb3]))
     refine yy39 ?_
     go_wp2_with fail
     go_meet
     case rel => exact ⟨(Below.drew (Below.refl wn.heap.size wn)).trans (HV2.out.mono (by simp)), by rw [HF.out]⟩
    have d5 : decide (1099511627776 < ai) = false := decide_eq_false i5
    by_cases i6 : ap < 0
    ·have HF := xh (HBD.out.1 (.inr (.inr (.inr (.inr (.inr (.inl i6)))))))
     have d6 : decide (ap < 0) = true := decide_eq_true i6
     refine wp_region_lit sc3 (by kernel_rfl) (by kernel_rfl) (fun _ _ d _ _ h => by cases d <;> exact h) ?_
     simp only [picked, sc3, xmc, xmn, xgs, xgz, xgd]
     have HV0 : Hid (Below wn.drew.heap.size wn.drew wn.drew) := xh (Below.refl _ _)
     have e0 := fun e : Ext wn.drew => HCELL.out 0 _ rfl e.val (HV0.out.trans (e.property.mono HV0.out.size))
     have e1 := fun e : Ext wn.drew => HCELL.out 1 _ rfl e.val (HV0.out.trans (e.property.mono HV0.out.size))
     have e2 := fun e : Ext wn.drew => HCELL.out 2 _ rfl e.val (HV0.out.trans (e.property.mono HV0.out.size))
     have e3 := fun e : Ext wn.drew => HCELL.out 3 _ rfl e.val (HV0.out.trans (e.property.mono HV0.out.size))
     have e4 := fun e : Ext wn.drew => HCELL.out 4 _ rfl e.val (HV0.out.trans (e.property.mono HV0.out.size))
     have e5 := fun e : Ext wn.drew => HCELL.out 5 _ rfl e.val (HV0.out.trans (e.property.mono HV0.out.size))
     repeat (first | (refine yy3 (by rfl) (fun K hK => ?_); go_big_quiet_op; refine hK _ ?_; clear hK K) | (refine yy5 (by rfl) ?_; simp only [Act.put, xsa, xsz, xss]) | (simp only [d1, d2, d4, d5, d6, xb9, xb0, xb7, xb8, xb6, xb5, xb4, xb2, xb1, xb3]))
     refine yy16 (by rfl) (fun K hK => ?_)
     go_simp
     refine (GP.out _).mono ?_
     rintro e v1 ⟨rfl, hb⟩
     have HV1 := xh (HV0.out.trans (hb.mono HV0.out.size))
     refine hK _ _ hb ?_
     clear hK K hb
     clear e0 e1 e2 e3 e4 e5
     repeat (first | (refine yy3 (by rfl) (fun K hK => ?_); go_big_quiet_op; refine hK _ ?_; clear hK K) | (refine yy5 (by rfl) ?_; simp only [Act.put, xsa, xsz, xss]) | (simp only [d1, d2, d4, d5, d6, xb9, xb0, xb7, xb8, xb6, xb5, xb4, xb2, xb1, xb3]))
     refine yy16 (by rfl) (fun K hK => ?_)
     go_simp
     refine (GS.out _ HV1.out).mono ?_
     rintro e v2 ⟨rfl, hb⟩
     have HV2 := xh (HV1.out.trans (hb.mono HV1.out.size))
     refine hK _ _ hb ?_
     clear hK K hb
     have e0 := fun e : Ext v2 => HCELL.out 0 _ rfl e.val (HV2.out.trans (e.property.mono HV2.out.size))
     have e1 := fun e : Ext v2 => HCELL.out 1 _ rfl e.val (HV2.out.trans (e.property.mono HV2.out.size))
     have e2 := fun e : Ext v2 => HCELL.out 2 _ rfl e.val (HV2.out.trans (e.property.mono HV2.out.size))
     have e3 := fun e : Ext v2 => HCELL.out 3 _ rfl e.val (HV2.out.trans (e.property.mono HV2.out.size))
     have e4 := fun e : Ext v2 => HCELL.out 4 _ rfl e.val (HV2.out.trans (e.property.mono HV2.out.size))
     have e5 := fun e : Ext v2 => HCELL.out 5 _ rfl e.val (HV2.out.trans (e.property.mono HV2.out.size))
     repeat (first | (refine yy3 (by rfl) (fun K hK => ?_); go_big_quiet_op; refine hK _ ?_; clear hK K) | (refine yy5 (by rfl) ?_; simp only [Act.put, xsa, xsz, xss]) | (simp only [d1, d2, d4, d5, d6, xb9, xb0, xb7, xb8, xb6, xb5, xb4, xb2, xb1, xb3]))
     refine yy39 ?_
     go_wp2_with fail
     go_meet
     case rel => exact ⟨(Below.drew (Below.refl wn.heap.size wn)).trans (HV2.out.mono (by simp)), by rw [HF.out]⟩
    have d6 : decide (ap < 0) = false := decide_eq_false i6
    by_cases i7 : 1099511627776 < ap
    ·have HF := xh (HBD.out.1 (.inr (.inr (.inr (.inr (.inr (.inr (.inl i7))))))))
     have d7 : decide (1099511627776 < ap) = true := decide_eq_true i7
     refine wp_region_lit sc3 (by kernel_rfl) (by kernel_rfl) (fun _ _ d _ _ h => by cases d <;> exact h) ?_
     simp only [picked, sc3, xmc, xmn, xgs, xgz, xgd]
     have HV0 : Hid (Below wn.drew.heap.size wn.drew wn.drew) := xh (Below.refl _ _)
     have e0 := fun e : Ext wn.drew => HCELL.out 0 _ rfl e.val (HV0.out.trans (e.property.mono HV0.out.size))
     have e1 := fun e : Ext wn.drew => HCELL.out 1 _ rfl e.val (HV0.out.trans (e.property.mono HV0.out.size))
     have e2 := fun e : Ext wn.drew => HCELL.out 2 _ rfl e.val (HV0.out.trans (e.property.mono HV0.out.size))
     have e3 := fun e : Ext wn.drew => HCELL.out 3 _ rfl e.val (HV0.out.trans (e.property.mono HV0.out.size))
     have e4 := fun e : Ext wn.drew => HCELL.out 4 _ rfl e.val (HV0.out.trans (e.property.mono HV0.out.size))
     have e5 := fun e : Ext wn.drew => HCELL.out 5 _ rfl e.val (HV0.out.trans (e.property.mono HV0.out.size))
     repeat (first | (refine yy3 (by rfl) (fun K hK => ?_); go_big_quiet_op; refine hK _ ?_; clear hK K) | (refine yy5 (by rfl) ?_; simp only [Act.put, xsa, xsz, xss]) | (simp only [d1, d2, d4, d5, d6, d7, xb9, xb0, xb7, xb8, xb6, xb5, xb4, xb2, xb1, xb3]))
     refine yy16 (by rfl) (fun K hK => ?_)
     go_simp
     refine (GP.out _).mono ?_
     rintro e v1 ⟨rfl, hb⟩
     have HV1 := xh (HV0.out.trans (hb.mono HV0.out.size))
     refine hK _ _ hb ?_
     clear hK K hb
     clear e0 e1 e2 e3 e4 e5
     repeat (first | (refine yy3 (by rfl) (fun K hK => ?_); go_big_quiet_op; refine hK _ ?_; clear hK K) | (refine yy5 (by rfl) ?_; simp only [Act.put, xsa, xsz, xss]) | (simp only [d1, d2, d4, d5, d6, d7, xb9, xb0, xb7, xb8, xb6, xb5, xb4, xb2, xb1, xb3]))
     refine yy16 (by rfl) (fun K hK => ?_)
     go_simp
     refine (GS.out _ HV1.out).mono ?_
     rintro e v2 ⟨rfl, hb⟩
     have HV2 := xh (HV1.out.trans (hb.mono HV1.out.size))
     refine hK _ _ hb ?_
     clear hK K hb
     have e0 := fun e : Ext v2 => HCELL.out 0 _ rfl e.val (HV2.out.trans (e.property.mono HV2.out.size))
     have e1 := fun e : Ext v2 => HCELL.out 1 _ rfl e.val (HV2.out.trans (e.property.mono HV2.out.size))
     have e2 := fun e : Ext v2 => HCELL.out 2 _ rfl e.val (HV2.out.trans (e.property.mono HV2.out.size))
     have e3 := fun e : Ext v2 => HCELL.out 3 _ rfl e.val (HV2.out.trans (e.property.mono HV2.out.size))
     have e4 := fun e : Ext v2 => HCELL.out 4 _ rfl e.val (HV2.out.trans (e.property.mono HV2.out.size))
     have e5 := fun e : Ext v2 => HCELL.out 5 _ rfl e.val (HV2.out.trans (e.property.mono HV2.out.size))
     repeat (first | (refine yy3 (by rfl) (fun K hK => ?_); go_big_quiet_op; refine hK _ ?_; clear hK K) | (refine yy5 (by rfl) ?_; simp only [Act.put, xsa, xsz, xss]) | (simp only [d1, d2, d4, d5, d6, d7, xb9, xb0, xb7, xb8, xb6, xb5, xb4, xb2, xb1, xb3]))
     refine yy39 ?_
     go_wp2_with fail
     go_meet
     case rel => exact ⟨(Below.drew (Below.refl wn.heap.size wn)).trans (HV2.out.mono (by simp)), by rw [HF.out]⟩
    have d7 : decide (1099511627776 < ap) = false := decide_eq_false i7
    by_cases i8 : ak = 1
    ·have d8 : (ak == 1) = true := by rw [i8]; rfl
     cases i10 : rName an with
     | false =>
      have HF := xh (HBD.out.1 (.inr (.inr (.inr (.inr (.inr (.inr (.inr ⟨.inl i8, i10⟩))))))))
      rw [i10] at GN
      clear i10 i8
      refine wp_region_lit sc3 (by kernel_rfl) (by kernel_rfl) (fun _ _ d _ _ h => by cases d <;> exact h) ?_
      simp only [picked, sc3, xmc, xmn, xgs, xgz, xgd]
      have HV0 : Hid (Below wn.drew.heap.size wn.drew wn.drew) := xh (Below.refl _ _)
      have e0 := fun e : Ext wn.drew => HCELL.out 0 _ rfl e.val (HV0.out.trans (e.property.mono HV0.out.size))
      have e1 := fun e : Ext wn.drew => HCELL.out 1 _ rfl e.val (HV0.out.trans (e.property.mono HV0.out.size))
      have e2 := fun e : Ext wn.drew => HCELL.out 2 _ rfl e.val (HV0.out.trans (e.property.mono HV0.out.size))
      have e3 := fun e : Ext wn.drew => HCELL.out 3 _ rfl e.val (HV0.out.trans (e.property.mono HV0.out.size))
      have e4 := fun e : Ext wn.drew => HCELL.out 4 _ rfl e.val (HV0.out.trans (e.property.mono HV0.out.size))
      have e5 := fun e : Ext wn.drew => HCELL.out 5 _ rfl e.val (HV0.out.trans (e.property.mono HV0.out.size))
      repeat (first | (refine yy3 (by rfl) (fun K hK => ?_); go_big_quiet_op; refine hK _ ?_; clear hK K) | (refine yy5 (by rfl) ?_; simp only [Act.put, xsa, xsz, xss]) | (simp only [d1, d2, d4, d5, d6, d7, d8, xb9, xb0, xb7, xb8, xb6, xb5, xb4, xb2, xb1, xb3]))
      refine yy16 (by rfl) (fun K hK => ?_)
      go_simp
      refine (GP.out _).mono ?_
      rintro e v1 ⟨rfl, hb⟩
      have HV1 := xh (HV0.out.trans (hb.mono HV0.out.size))
      refine hK _ _ hb ?_
      clear hK K hb
      clear e0 e1 e2 e3 e4 e5
      repeat (first | (refine yy3 (by rfl) (fun K hK => ?_); go_big_quiet_op; refine hK _ ?_; clear hK K) | (refine yy5 (by rfl) ?_; simp only [Act.put, xsa, xsz, xss]) | (simp only [d1, d2, d4, d5, d6, d7, d8, xb9, xb0, xb7, xb8, xb6, xb5, xb4, xb2, xb1, xb3]))
      refine yy16 (by rfl) (fun K hK => ?_)
      go_simp
      refine (GS.out _ HV1.out).mono ?_
      rintro e v2 ⟨rfl, hb⟩
      have HV2 := xh (HV1.out.trans (hb.mono HV1.out.size))
      refine hK _ _ hb ?_
      clear hK K hb
      have e0 := fun e : Ext v2 => HCELL.out 0 _ rfl e.val (HV2.out.trans (e.property.mono HV2.out.size))
      have e1 := fun e : Ext v2 => HCELL.out 1 _ rfl e.val (HV2.out.trans (e.property.mono HV2.out.size))
      have e2 := fun e : Ext v2 => HCELL.out 2 _ rfl e.val (HV2.out.trans (e.property.mono HV2.out.size))
      have e3 := fun e : Ext v2 => HCELL.out 3 _ rfl e.val (HV2.out.trans (e.property.mono HV2.out.size))
      have e4 := fun e : Ext v2 => HCELL.out 4 _ rfl e.val (HV2.out.trans (e.property.mono HV2.out.size))
      have e5 := fun e : Ext v2 => HCELL.out 5 _ rfl e.val (HV2.out.trans (e.property.mono HV2.out.size))
      repeat (first | (refine yy3 (by rfl) (fun K hK => ?_); go_big_quiet_op; refine hK _ ?_; clear hK K) | (refine yy5 (by rfl) ?_; simp only [Act.put, xsa, xsz, xss]) | (simp only [d1, d2, d4, d5, d6, d7, d8, xb9, xb0, xb7, xb8, xb6, xb5, xb4, xb2, xb1, xb3]))
      refine yy16 (by rfl) (fun K hK => ?_)
      go_simp
      refine (GN.out _).mono ?_
      rintro e v ⟨rfl, rfl⟩
      refine hK _ _ (Below.refl _ _) ?_
      clear hK K
      repeat (first | (refine yy3 (by rfl) (fun K hK => ?_); go_big_quiet_op; refine hK _ ?_; clear hK K) | (refine yy5 (by rfl) ?_; simp only [Act.put, xsa, xsz, xss]) | (simp only [d1, d2, d4, d5, d6, d7, d8, xb9, xb0, xb7, xb8, xb6, xb5, xb4, xb2, xb1, xb3]))
      refine yy39 ?_
      go_wp2_with fail
      go_meet
      case rel => exact ⟨(Below.drew (Below.refl wn.heap.size wn)).trans (HV2.out.mono (by simp)), by rw [HF.out]⟩
     | true =>
      have HF := xh (HBD.out.2 (fun h => by
       rcases h with h | h | h | h | h | h | h | h
       ·exact i1 h
       ·exact i2 h
       ·exact h (by rw [HPB.out]; exact i3)
       ·exact i4 h
       ·exact i5 h
       ·exact i6 h
       ·exact i7 h
       ·exact absurd h (fun h => by have := h.2; simp only at this; rw [i10] at this; cases this)))
      rw [i10] at GN
      clear i10 i8
      refine wp_region_lit sc3 (by kernel_rfl) (by kernel_rfl) (fun _ _ d _ _ h => by cases d <;> exact h) ?_
      simp only [picked, sc3, xmc, xmn, xgs, xgz, xgd]
      have HV0 : Hid (Below wn.drew.heap.size wn.drew wn.drew) := xh (Below.refl _ _)
      have e0 := fun e : Ext wn.drew => HCELL.out 0 _ rfl e.val (HV0.out.trans (e.property.mono HV0.out.size))
      have e1 := fun e : Ext wn.drew => HCELL.out 1 _ rfl e.val (HV0.out.trans (e.property.mono HV0.out.size))
      have e2 := fun e : Ext wn.drew => HCELL.out 2 _ rfl e.val (HV0.out.trans (e.property.mono HV0.out.size))
      have e3 := fun e : Ext wn.drew => HCELL.out 3 _ rfl e.val (HV0.out.trans (e.property.mono HV0.out.size))
      have e4 := fun e : Ext wn.drew => HCELL.out 4 _ rfl e.val (HV0.out.trans (e.property.mono HV0.out.size))
      have e5 := fun e : Ext wn.drew => HCELL.out 5 _ rfl e.val (HV0.out.trans (e.property.mono HV0.out.size))
      repeat (first | (refine yy3 (by rfl) (fun K hK => ?_); go_big_quiet_op; refine hK _ ?_; clear hK K) | (refine yy5 (by rfl) ?_; simp only [Act.put, xsa, xsz, xss]) | (simp only [d1, d2, d4, d5, d6, d7, d8, xb9, xb0, xb7, xb8, xb6, xb5, xb4, xb2, xb1, xb3]))
      refine yy16 (by rfl) (fun K hK => ?_)
      go_simp
      refine (GP.out _).mono ?_
      rintro e v1 ⟨rfl, hb⟩
      have HV1 := xh (HV0.out.trans (hb.mono HV0.out.size))
      refine hK _ _ hb ?_
      clear hK K hb
      clear e0 e1 e2 e3 e4 e5
      repeat (first | (refine yy3 (by rfl) (fun K hK => ?_); go_big_quiet_op; refine hK _ ?_; clear hK K) | (refine yy5 (by rfl) ?_; simp only [Act.put, xsa, xsz, xss]) | (simp only [d1, d2, d4, d5, d6, d7, d8, xb9, xb0, xb7, xb8, xb6, xb5, xb4, xb2, xb1, xb3]))
      refine yy16 (by rfl) (fun K hK => ?_)
      go_simp
      refine (GS.out _ HV1.out).mono ?_
      rintro e v2 ⟨rfl, hb⟩
      have HV2 := xh (HV1.out.trans (hb.mono HV1.out.size))
      refine hK _ _ hb ?_
      clear hK K hb
      have e0 := fun e : Ext v2 => HCELL.out 0 _ rfl e.val (HV2.out.trans (e.property.mono HV2.out.size))
      have e1 := fun e : Ext v2 => HCELL.out 1 _ rfl e.val (HV2.out.trans (e.property.mono HV2.out.size))
      have e2 := fun e : Ext v2 => HCELL.out 2 _ rfl e.val (HV2.out.trans (e.property.mono HV2.out.size))
      have e3 := fun e : Ext v2 => HCELL.out 3 _ rfl e.val (HV2.out.trans (e.property.mono HV2.out.size))
      have e4 := fun e : Ext v2 => HCELL.out 4 _ rfl e.val (HV2.out.trans (e.property.mono HV2.out.size))
      have e5 := fun e : Ext v2 => HCELL.out 5 _ rfl e.val (HV2.out.trans (e.property.mono HV2.out.size))
      repeat (first | (refine yy3 (by rfl) (fun K hK => ?_); go_big_quiet_op; refine hK _ ?_; clear hK K) | (refine yy5 (by rfl) ?_; simp only [Act.put, xsa, xsz, xss]) | (simp only [d1, d2, d4, d5, d6, d7, d8, xb9, xb0, xb7, xb8, xb6, xb5, xb4, xb2, xb1, xb3]))
      refine yy16 (by rfl) (fun K hK => ?_)
      go_simp
      refine (GN.out _).mono ?_
      rintro e v ⟨rfl, rfl⟩
      refine hK _ _ (Below.refl _ _) ?_
      clear hK K
      repeat (first | (refine yy3 (by rfl) (fun K hK => ?_); go_big_quiet_op; refine hK _ ?_; clear hK K) | (refine yy5 (by rfl) ?_; simp only [Act.put, xsa, xsz, xss]) | (simp only [d1, d2, d4, d5, d6, d7, d8, xb9, xb0, xb7, xb8, xb6, xb5, xb4, xb2, xb1, xb3]))
      refine yy39 ?_
      go_wp2_with fail
      go_meet
      case rel => exact ⟨(Below.drew (Below.refl wn.heap.size wn)).trans (HV2.out.mono (by simp)), by rw [HF.out]⟩
    have d8 : (ak == 1) = false := xn i8
    by_cases i9 : ak = 3
    ·have d9 : (ak == 3) = true := by rw [i9]; rfl
     cases i10 : rName an with
     | false =>
      have HF := xh (HBD.out.1 (.inr (.inr (.inr (.inr (.inr (.inr (.inr ⟨.inr i9, i10⟩))))))))
      rw [i10] at GN
      clear i10 i9
      refine wp_region_lit sc3 (by kernel_rfl) (by kernel_rfl) (fun _ _ d _ _ h => by cases d <;> exact h) ?_
      simp only [picked, sc3, xmc, xmn, xgs, xgz, xgd]
      have HV0 : Hid (Below wn.drew.heap.size wn.drew wn.drew) := xh (Below.refl _ _)
      have e0 := fun e : Ext wn.drew => HCELL.out 0 _ rfl e.val (HV0.out.trans (e.property.mono HV0.out.size))
      have e1 := fun e : Ext wn.drew => HCELL.out 1 _ rfl e.val (HV0.out.trans (e.property.mono HV0.out.size))
      have e2 := fun e : Ext wn.drew => HCELL.out 2 _ rfl e.val (HV0.out.trans (e.property.mono HV0.out.size))
      have e3 := fun e : Ext wn.drew => HCELL.out 3 _ rfl e.val (HV0.out.trans (e.property.mono HV0.out.size))
      have e4 := fun e : Ext wn.drew => HCELL.out 4 _ rfl e.val (HV0.out.trans (e.property.mono HV0.out.size))
      have e5 := fun e : Ext wn.drew => HCELL.out 5 _ rfl e.val (HV0.out.trans (e.property.mono HV0.out.size))
      repeat (first | (refine yy3 (by rfl) (fun K hK => ?_); go_big_quiet_op; refine hK _ ?_; clear hK K) | (refine yy5 (by rfl) ?_; simp only [Act.put, xsa, xsz, xss]) | (simp only [d1, d2, d4, d5, d6, d7, d8, d9, xb9, xb0, xb7, xb8, xb6, xb5, xb4, xb2, xb1, xb3]))
      refine yy16 (by rfl) (fun K hK => ?_)
      go_simp
      refine (GP.out _).mono ?_
      rintro e v1 ⟨rfl, hb⟩
      have HV1 := xh (HV0.out.trans (hb.mono HV0.out.size))
      refine hK _ _ hb ?_
      clear hK K hb
      clear e0 e1 e2 e3 e4 e5
      repeat (first | (refine yy3 (by rfl) (fun K hK => ?_); go_big_quiet_op; refine hK _ ?_; clear hK K) | (refine yy5 (by rfl) ?_; simp only [Act.put, xsa, xsz, xss]) | (simp only [d1, d2, d4, d5, d6, d7, d8, d9, xb9, xb0, xb7, xb8, xb6, xb5, xb4, xb2, xb1, xb3]))
      refine yy16 (by rfl) (fun K hK => ?_)
      go_simp
      refine (GS.out _ HV1.out).mono ?_
      rintro e v2 ⟨rfl, hb⟩
      have HV2 := xh (HV1.out.trans (hb.mono HV1.out.size))
      refine hK _ _ hb ?_
      clear hK K hb
      have e0 := fun e : Ext v2 => HCELL.out 0 _ rfl e.val (HV2.out.trans (e.property.mono HV2.out.size))
      have e1 := fun e : Ext v2 => HCELL.out 1 _ rfl e.val (HV2.out.trans (e.property.mono HV2.out.size))
      have e2 := fun e : Ext v2 => HCELL.out 2 _ rfl e.val (HV2.out.trans (e.property.mono HV2.out.size))
      have e3 := fun e : Ext v2 => HCELL.out 3 _ rfl e.val (HV2.out.trans (e.property.mono HV2.out.size))
      have e4 := fun e : Ext v2 => HCELL.out 4 _ rfl e.val (HV2.out.trans (e.property.mono HV2.out.size))
      have e5 := fun e : Ext v2 => HCELL.out 5 _ rfl e.val (HV2.out.trans (e.property.mono HV2.out.size))
      repeat (first | (refine yy3 (by rfl) (fun K hK => ?_); go_big_quiet_op; refine hK _ ?_; clear hK K) | (refine yy5 (by rfl) ?_; simp only [Act.put, xsa, xsz, xss]) | (simp only [d1, d2, d4, d5, d6, d7, d8, d9, xb9, xb0, xb7, xb8, xb6, xb5, xb4, xb2, xb1, xb3]))
      refine yy16 (by rfl) (fun K hK => ?_)
      go_simp
      refine (GN.out _).mono ?_
      rintro e v ⟨rfl, rfl⟩
      refine hK _ _ (Below.refl _ _) ?_
      clear hK K
      repeat (first | (refine yy3 (by rfl) (fun K hK => ?_); go_big_quiet_op; refine hK _ ?_; clear hK K) | (refine yy5 (by rfl) ?_; simp only [Act.put, xsa, xsz, xss]) | (simp only [d1, d2, d4, d5, d6, d7, d8, d9, xb9, xb0, xb7, xb8, xb6, xb5, xb4, xb2, xb1, xb3]))
      refine yy39 ?_
      go_wp2_with fail
      go_meet
      case rel => exact ⟨(Below.drew (Below.refl wn.heap.size wn)).trans (HV2.out.mono (by simp)), by rw [HF.out]⟩
     | true =>
      have HF := xh (HBD.out.2 (fun h => by
       rcases h with h | h | h | h | h | h | h | h
       ·exact i1 h
       ·exact i2 h
       ·exact h (by rw [HPB.out]; exact i3)
       ·exact i4 h
       ·exact i5 h
       ·exact i6 h
       ·exact i7 h
       ·exact absurd h (fun h => by have := h.2; simp only at this; rw [i10] at this; cases this)))
      rw [i10] at GN
      clear i10 i9
      refine wp_region_lit sc3 (by kernel_rfl) (by kernel_rfl) (fun _ _ d _ _ h => by cases d <;> exact h) ?_
      simp only [picked, sc3, xmc, xmn, xgs, xgz, xgd]
      have HV0 : Hid (Below wn.drew.heap.size wn.drew wn.drew) := xh (Below.refl _ _)
      have e0 := fun e : Ext wn.drew => HCELL.out 0 _ rfl e.val (HV0.out.trans (e.property.mono HV0.out.size))
      have e1 := fun e : Ext wn.drew => HCELL.out 1 _ rfl e.val (HV0.out.trans (e.property.mono HV0.out.size))
      have e2 := fun e : Ext wn.drew => HCELL.out 2 _ rfl e.val (HV0.out.trans (e.property.mono HV0.out.size))
      have e3 := fun e : Ext wn.drew => HCELL.out 3 _ rfl e.val (HV0.out.trans (e.property.mono HV0.out.size))
      have e4 := fun e : Ext wn.drew => HCELL.out 4 _ rfl e.val (HV0.out.trans (e.property.mono HV0.out.size))
      have e5 := fun e : Ext wn.drew => HCELL.out 5 _ rfl e.val (HV0.out.trans (e.property.mono HV0.out.size))
      repeat (first | (refine yy3 (by rfl) (fun K hK => ?_); go_big_quiet_op; refine hK _ ?_; clear hK K) | (refine yy5 (by rfl) ?_; simp only [Act.put, xsa, xsz, xss]) | (simp only [d1, d2, d4, d5, d6, d7, d8, d9, xb9, xb0, xb7, xb8, xb6, xb5, xb4, xb2, xb1, xb3]))
      refine yy16 (by rfl) (fun K hK => ?_)
      go_simp
      refine (GP.out _).mono ?_
      rintro e v1 ⟨rfl, hb⟩
      have HV1 := xh (HV0.out.trans (hb.mono HV0.out.size))
      refine hK _ _ hb ?_
      clear hK K hb
      clear e0 e1 e2 e3 e4 e5
      repeat (first | (refine yy3 (by rfl) (fun K hK => ?_); go_big_quiet_op; refine hK _ ?_; clear hK K) | (refine yy5 (by rfl) ?_; simp only [Act.put, xsa, xsz, xss]) | (simp only [d1, d2, d4, d5, d6, d7, d8, d9, xb9, xb0, xb7, xb8, xb6, xb5, xb4, xb2, xb1, xb3]))
      refine yy16 (by rfl) (fun K hK => ?_)
      go_simp
      refine (GS.out _ HV1.out).mono ?_
      rintro e v2 ⟨rfl, hb⟩
      have HV2 := xh (HV1.out.trans (hb.mono HV1.out.size))
      refine hK _ _ hb ?_
      clear hK K hb
      have e0 := fun e : Ext v2 => HCELL.out 0 _ rfl e.val (HV2.out.trans (e.property.mono HV2.out.size))
      have e1 := fun e : Ext v2 => HCELL.out 1 _ rfl e.val (HV2.out.trans (e.property.mono HV2.out.size))
      have e2 := fun e : Ext v2 => HCELL.out 2 _ rfl e.val (HV2.out.trans (e.property.mono HV2.out.size))
      have e3 := fun e : Ext v2 => HCELL.out 3 _ rfl e.val (HV2.out.trans (e.property.mono HV2.out.size))
      have e4 := fun e : Ext v2 => HCELL.out 4 _ rfl e.val (HV2.out.trans (e.property.mono HV2.out.size))
      have e5 := fun e : Ext v2 => HCELL.out 5 _ rfl e.val (HV2.out.trans (e.property.mono HV2.out.size))
      repeat (first | (refine yy3 (by rfl) (fun K hK => ?_); go_big_quiet_op; refine hK _ ?_; clear hK K) | (refine yy5 (by rfl) ?_; simp only [Act.put, xsa, xsz, xss]) | (simp only [d1, d2, d4, d5, d6, d7, d8, d9, xb9, xb0, xb7, xb8, xb6, xb5, xb4, xb2, xb1, xb3]))
      refine yy16 (by rfl) (fun K hK => ?_)
      go_simp
      refine (GN.out _).mono ?_
      rintro e v ⟨rfl, rfl⟩
      refine hK _ _ (Below.refl _ _) ?_
      clear hK K
      repeat (first | (refine yy3 (by rfl) (fun K hK => ?_); go_big_quiet_op; refine hK _ ?_; clear hK K) | (refine yy5 (by rfl) ?_; simp only [Act.put, xsa, xsz, xss]) | (simp only [d1, d2, d4, d5, d6, d7, d8, d9, xb9, xb0, xb7, xb8, xb6, xb5, xb4, xb2, xb1, xb3]))
      refine yy39 ?_
      go_wp2_with fail
      go_meet
      case rel => exact ⟨(Below.drew (Below.refl wn.heap.size wn)).trans (HV2.out.mono (by simp)), by rw [HF.out]⟩
    have d9 : (ak == 3) = false := xn i9
    have HF := xh (HBD.out.2 (fun h => by
     rcases h with h | h | h | h | h | h | h | h
     ·exact i1 h
     ·exact i2 h
     ·exact h (by rw [HPB.out]; exact i3)
     ·exact i4 h
     ·exact i5 h
     ·exact i6 h
     ·exact i7 h
     ·exact absurd h (fun h => by rcases h.1 with g | g; exact i8 g; exact i9 g)))
    refine wp_region_lit sc3 (by kernel_rfl) (by kernel_rfl) (fun _ _ d _ _ h => by cases d <;> exact h) ?_
    simp only [picked, sc3, xmc, xmn, xgs, xgz, xgd]
    have HV0 : Hid (Below wn.drew.heap.size wn.drew wn.drew) := xh (Below.refl _ _)
    have e0 := fun e : Ext wn.drew => HCELL.out 0 _ rfl e.val (HV0.out.trans (e.property.mono HV0.out.size))
    have e1 := fun e : Ext wn.drew => HCELL.out 1 _ rfl e.val (HV0.out.trans (e.property.mono HV0.out.size))
    have e2 := fun e : Ext wn.drew => HCELL.out 2 _ rfl e.val (HV0.out.trans (e.property.mono HV0.out.size))
    have e3 := fun e : Ext wn.drew => HCELL.out 3 _ rfl e.val (HV0.out.trans (e.property.mono HV0.out.size))
    have e4 := fun e : Ext wn.drew => HCELL.out 4 _ rfl e.val (HV0.out.trans (e.property.mono HV0.out.size))
    have e5 := fun e : Ext wn.drew => HCELL.out 5 _ rfl e.val (HV0.out.trans (e.property.mono HV0.out.size))
    repeat (first | (refine yy3 (by rfl) (fun K hK => ?_); go_big_quiet_op; refine hK _ ?_; clear hK K) | (refine yy5 (by rfl) ?_; simp only [Act.put, xsa, xsz, xss]) | (simp only [d1, d2, d4, d5, d6, d7, d8, d9, xb9, xb0, xb7, xb8, xb6, xb5, xb4, xb2, xb1, xb3]))
    refine yy16 (by rfl) (fun K hK => ?_)
    go_simp
    refine (GP.out _).mono ?_
    rintro e v1 ⟨rfl, hb⟩
    have HV1 := xh (HV0.out.trans (hb.mono HV0.out.size))
    refine hK _ _ hb ?_
    clear hK K hb
    clear e0 e1 e2 e3 e4 e5
    repeat (first | (refine yy3 (by rfl) (fun K hK => ?_); go_big_quiet_op; refine hK _ ?_; clear hK K) | (refine yy5 (by rfl) ?_; simp only [Act.put, xsa, xsz, xss]) | (simp only [d1, d2, d4, d5, d6, d7, d8, d9, xb9, xb0, xb7, xb8, xb6, xb5, xb4, xb2, xb1, xb3]))
    refine yy16 (by rfl) (fun K hK => ?_)
    go_simp
    refine (GS.out _ HV1.out).mono ?_
    rintro e v2 ⟨rfl, hb⟩
    have HV2 := xh (HV1.out.trans (hb.mono HV1.out.size))
    refine hK _ _ hb ?_
    clear hK K hb
    have e0 := fun e : Ext v2 => HCELL.out 0 _ rfl e.val (HV2.out.trans (e.property.mono HV2.out.size))
    have e1 := fun e : Ext v2 => HCELL.out 1 _ rfl e.val (HV2.out.trans (e.property.mono HV2.out.size))
    have e2 := fun e : Ext v2 => HCELL.out 2 _ rfl e.val (HV2.out.trans (e.property.mono HV2.out.size))
    have e3 := fun e : Ext v2 => HCELL.out 3 _ rfl e.val (HV2.out.trans (e.property.mono HV2.out.size))
    have e4 := fun e : Ext v2 => HCELL.out 4 _ rfl e.val (HV2.out.trans (e.property.mono HV2.out.size))
    have e5 := fun e : Ext v2 => HCELL.out 5 _ rfl e.val (HV2.out.trans (e.property.mono HV2.out.size))
    repeat (first | (refine yy3 (by rfl) (fun K hK => ?_); go_big_quiet_op; refine hK _ ?_; clear hK K) | (refine yy5 (by rfl) ?_; simp only [Act.put, xsa, xsz, xss]) | (simp only [d1, d2, d4, d5, d6, d7, d8, d9, xb9, xb0, xb7, xb8, xb6, xb5, xb4, xb2, xb1, xb3]))
    refine yy39 ?_
    go_wp2_with fail
    go_meet
    case rel => exact ⟨(Below.drew (Below.refl wn.heap.size wn)).trans (HV2.out.mono (by simp)), by rw [HF.out]⟩
   case rest =>
    obtain ⟨hbw, rfl⟩ := hcut
    have HY : Hid (∀ (f : Nat) (v : Value), (yy0 ⟨ak, ai, ap, an, ad, aA, aC, ao⟩)[f]? = some v → ∀ X : World, Below wc.heap.size wc X → X.cell? ⟨wo.heap.size, f, none⟩ = some v) := xh (fun f v hf X h => by
     have h1 := (hbw.cell (p := ⟨wo.heap.size, f, none⟩) hsn).trans (HNC.out f v hf)
     exact (h.cell (World.block_lt_of_cell? _ _ h1)).trans h1)
    have HBC : Hid (Below w.heap.size w wc) := xh (HBN.out.trans (hbw.mono HBN.out.size))
    have HAC := xh (HA.out.below HBC.out)
    have HOPS : Hid (∀ X : World, Below wc.heap.size wc X → yy6 X aA ao) := xh (fun X h => (HCO.out.below HBC.out).below h)
    clear hbw HNC HBN HWN hsn z0 z1 z2 z3 z4 z5 HCO
    cases bd with
    | true =>
     have HF := xh (HBAD.out (by
      show _
      by_cases h : ABad ⟨ak, ai, ap, an, ad, aA, aC, ao⟩
      ·exact h
      ·exact absurd (HBD.out.2 h) (by simp)))
     go_wp2
     go_ret
     exact ⟨by rw [HF.out]; rfl, HBC.out⟩
    | false =>
     have HNB : Hid (¬ ABad ⟨ak, ai, ap, an, ad, aA, aC, ao⟩) := xh (fun h => absurd (HBD.out.1 h) (by simp))
     have y0 := HY.out 0 _ rfl wc (Below.refl _ _)
     have y5 := HY.out 5 _ rfl wc (Below.refl _ _)
     have HY1 := xh (HY.out 1 _ rfl)
     have HY5 := xh (HY.out 5 _ rfl)
     by_cases h4 : ak = 4
     rotate_left
     ·have HR := xh (HSKIP.out HNB.out h4)
      have h4n : (ak != 4) = true := by simpa using h4
      clear HBAD HSKIP HERR HTWICE0 HMORE h4
      go_wp2
      go_roundw
      case rel => exact ⟨k + 1, N, by omega, rfl, by go_num, trivial, trivial, trivial, trivial, by omega, HR, HBC⟩
      case measure => simp [intOf]; omega
     subst h4
     have GCK := xh (fun (v : World) (h : Below wc.heap.size wc v) => yy197 aA aC ao (by have := HOK.out.1.2.2.2.2.2; simp only at this; omega) HOK.out.2.2.1 v (HOPS.out v h))
     have HFINE := xh HOK.out.2.2.1
     have HTLEN := xh HOK.out.2.2.2
     simp only at HFINE HTLEN
     have haol : ao.length ≤ 9223372036854775807 := by have := HOK.out.1.2.2.2.2.2; simp only at this; unfold maxLen at this; omega
     have HERR2 := xh (HERR.out HNB.out rfl)
     have HTW2 := xh (HTWICE0.out HNB.out rfl)
     have HMORE2 := xh (HMORE.out HNB.out rfl)
     clear HBAD HSKIP HERR HTWICE0 HMORE
     generalize rCheck ao = rc at GCK HERR2 HTW2 HMORE2
     go_wp2_with fail
     refine (GCK.out _ (Below.refl _ _)).mono ?_
     rintro e x1 ⟨rfl, hb⟩
     have HB1 := xh hb
     clear hb y0 y5 GCK
     by_cases hrc : rc = 0
     rotate_left
     ·have HF := xh (HERR2.out hrc)
      have hrn : ((rc : Int) != 0) = true := by simp; omega
      clear hrc
      go_wp2
      go_ret
      exact ⟨by rw [HF.out]; rfl, HBC.out.trans (HB1.out.mono HBC.out.size)⟩
     have HTWICE := xh (HTW2.out hrc)
     have HMORE3 := xh (HMORE2.out hrc)
     have hrn : ((rc : Int) != 0) = false := by rw [hrc]; rfl
     clear hrc
     clear HERR2 HTW2 HMORE2
     go_wp2_with fail
     go_loopw [7] (fun s7 wr2 => ∃ j : Nat, j ≤ k ∧ s7 = .int .i64 (j : Int) ∧ Hid (∀ i (hi : i < l.length), i < j → ¬ (l[i].kind = 4 ∧ l[i].id = ai)) ∧ Hid (Below wc.heap.size wc wr2)) (fun s7 _ => k - (intOf s7).toNat)
     case atStart => exact ⟨0, Nat.zero_le _, rfl, xh (fun i hi h => by omega), HB1⟩
     case round =>
      obtain ⟨j, hj, rfl, HN, HB2⟩ := hrel
      obtain ⟨wr2, hwr2⟩ : ∃ x, x = wr := ⟨wr, rfl⟩
      subst hwr2
      by_cases hlt2 : j < k
      ·skip
       have hjl : j < l.length := by omega
       have hjI : (j : Int) < (l.length : Int) := by omega
       have hjk : (j : Int) < (k : Int) := by omega
       have HZ : Hid (∀ X : World, Below wc.heap.size wc X → X.cell? ⟨b, off + j * 6, none⟩ = some (.int .i64 l[j].kind) ∧ X.cell? ⟨b, off + j * 6 + 1, none⟩ = some (.int .i64 l[j].id)) := xh (fun X h => ⟨((HAC.out.below h).at_ hjl).1, ((HAC.out.below h).at_ hjl).2.1⟩)
       have HNJ : Hid (¬ (l[j].kind = 4 ∧ l[j].id = ai) → ∀ i (hi : i < l.length), i < j + 1 → ¬ (l[i].kind = 4 ∧ l[i].id = ai)) := xh (fun h i hi hij => by
        rcases Nat.lt_or_ge i j with g | g
        ·exact HN.out i hi g
        ·obtain rfl : i = j := by omega
         exact h)
       have HTJ : Hid (l[j].kind = 4 ∧ l[j].id = ai → T = 1) := xh (fun h => HTWICE.out (by
        refine ⟨l[j], ?_, h⟩
        exact List.mem_take_iff_getElem.2 ⟨j, by omega, rfl⟩))
       generalize l[j].kind = jk at HZ HNJ HTJ
       generalize l[j].id = ji at HZ HNJ HTJ
       have HB2D := xh (Below.drew HB2.out)
       clear HN
       by_cases f1 : jk = 4
       rotate_left
       ·have HNX := xh (HNJ.out (fun h => f1 h.1))
        have t1 : (jk == 4) = false := xn f1
        clear HNJ HTJ f1
        go_wp2_with fail
        refine wp_region_lit sc4 (by kernel_rfl) (by kernel_rfl) (fun _ _ d _ _ h => by cases d <;> exact h) ?_
        simp only [picked, sc4, xmc, xmn, xgs, xgz, xgd]
        generalize wr2.drew = wd2 at HB2D ⊢
        have q0 := fun e : Ext wd2 => (HZ.out e.val (HB2D.out.trans (e.property.mono HB2D.out.size))).1
        have q1 := fun e : Ext wd2 => (HZ.out e.val (HB2D.out.trans (e.property.mono HB2D.out.size))).2
        have q2 := fun e : Ext wd2 => HY1.out e.val (HB2D.out.trans (e.property.mono HB2D.out.size))
        repeat (first | (refine yy3 (by rfl) (fun K hK => ?_); go_big_quiet_op; refine hK _ ?_; clear hK K) | (refine yy5 (by rfl) ?_; simp only [Act.put, xsa, xsz, xss]) | (simp only [t1, xb9, xb0, xb7, xb8, xb6, xb5, xb4, xb2, xb1, xb3]))
        clear q0 q1 q2
        refine yy39 ?_
        go_wp2
        go_roundw
        case rel => exact ⟨j + 1, by omega, by go_num, HNX, HB2D⟩
        case measure => simp [intOf]; omega
       by_cases f2 : ji = ai
       rotate_left
       ·have HNX := xh (HNJ.out (fun h => f2 h.2))
        have t1 : (jk == 4) = true := by rw [f1]; rfl
        have t2 : (ji == ai) = false := xn f2
        clear HNJ HTJ f1 f2
        go_wp2_with fail
        refine wp_region_lit sc4 (by kernel_rfl) (by kernel_rfl) (fun _ _ d _ _ h => by cases d <;> exact h) ?_
        simp only [picked, sc4, xmc, xmn, xgs, xgz, xgd]
        generalize wr2.drew = wd2 at HB2D ⊢
        have q0 := fun e : Ext wd2 => (HZ.out e.val (HB2D.out.trans (e.property.mono HB2D.out.size))).1
        have q1 := fun e : Ext wd2 => (HZ.out e.val (HB2D.out.trans (e.property.mono HB2D.out.size))).2
        have q2 := fun e : Ext wd2 => HY1.out e.val (HB2D.out.trans (e.property.mono HB2D.out.size))
        repeat (first | (refine yy3 (by rfl) (fun K hK => ?_); go_big_quiet_op; refine hK _ ?_; clear hK K) | (refine yy5 (by rfl) ?_; simp only [Act.put, xsa, xsz, xss]) | (simp only [t1, t2, xb9, xb0, xb7, xb8, xb6, xb5, xb4, xb2, xb1, xb3]))
        clear q0 q1 q2
        refine yy39 ?_
        go_wp2
        go_roundw
        case rel => exact ⟨j + 1, by omega, by go_num, HNX, HB2D⟩
        case measure => simp [intOf]; omega
       have HF := xh (HTJ.out ⟨f1, f2⟩)
       have t1 : (jk == 4) = true := by rw [f1]; rfl
       have t2 : (ji == ai) = true := by rw [f2]; simp
       clear HNJ HTJ f1 f2
       go_wp2_with fail
       refine wp_region_lit sc4 (by kernel_rfl) (by kernel_rfl) (fun _ _ d _ _ h => by cases d <;> exact h) ?_
       simp only [picked, sc4, xmc, xmn, xgs, xgz, xgd]
       generalize wr2.drew = wd2 at HB2D ⊢
       have q0 := fun e : Ext wd2 => (HZ.out e.val (HB2D.out.trans (e.property.mono HB2D.out.size))).1
       have q1 := fun e : Ext wd2 => (HZ.out e.val (HB2D.out.trans (e.property.mono HB2D.out.size))).2
       have q2 := fun e : Ext wd2 => HY1.out e.val (HB2D.out.trans (e.property.mono HB2D.out.size))
       repeat (first | (refine yy3 (by rfl) (fun K hK => ?_); go_big_quiet_op; refine hK _ ?_; clear hK K) | (refine yy5 (by rfl) ?_; simp only [Act.put, xsa, xsz, xss]) | (simp only [t1, t2, xb9, xb0, xb7, xb8, xb6, xb5, xb4, xb2, xb1, xb3]))
       clear q0 q1 q2
       refine yy39 ?_
       go_wp2
       go_ret
       exact ⟨by rw [HF.out]; rfl, HBC.out.trans (HB2D.out.mono HBC.out.size)⟩
      ·obtain rfl : j = k := by omega
       have HR0 := xh (HMORE3.out (fun ⟨x, hx, h⟩ => by
        obtain ⟨i, hi, rfl⟩ := List.mem_take_iff_getElem.1 hx
        exact HN.out i (by omega) (by omega) h))
       clear HMORE3 HTWICE HN
       have hjj : ¬ (j : Int) < (j : Int) := by omega
       go_wp2_with fail
       go_loopw [3, 8] (fun n s8 wr3 => ∃ i : Nat, i ≤ ao.length ∧ n = .int .i64 ((N + insT (ao.take i) : Nat) : Int) ∧ s8 = .int .i64 (i : Int) ∧ Hid (Below wc.heap.size wc wr3)) (fun _ s8 _ => ao.length - (intOf s8).toNat)
       case atStart => exact ⟨0, Nat.zero_le _, by simp [insT], rfl, HB2⟩
       case round =>
        clear HB2
        obtain ⟨j3, hj3, rfl, rfl, HB3⟩ := hrel
        obtain ⟨wr3, hwr3⟩ : ∃ x, x = wr := ⟨wr, rfl⟩
        subst hwr3
        by_cases hlt3 : j3 < ao.length
        ·skip
         have hjI : (j3 : Int) < (ao.length : Int) := by omega
         have HOC := xh (HOPS.out _ HB3.out)
         obtain ⟨bo, oo, hae, _⟩ := HOC.out.form (by omega)
         have HAE := xh hae
         clear hae
         have hc := (show yy6 wr3 (some ⟨bo, oo, none⟩) ao from HAE.out ▸ HOC.out).at_ hlt3
         have HINS := xh (yy572 hlt3)
         have HGC := xh (HFINE.out _ (List.getElem_mem hlt3))
         generalize ao[j3] = cc at hc HINS HGC
         obtain ⟨ck, cn, ct⟩ := cc
         simp only at hc HINS HGC
         obtain ⟨hc0, hc1, hc2⟩ := hc
         have GCT := xh (fun v => yy196 ct HGC.out.1.2.2.1 HGC.out.2 v)
         have hcb := cps_le ct
         have hcl := HGC.out.2
         have HTL : Hid (insT (ao.take (j3 + 1)) ≤ 4000) := xh (Nat.le_trans (yy360 ao (j3 + 1)) HTLEN.out)
         generalize (cps ct).length = cl at GCT HINS hcb
         rw [HINS.out] at HTL
         have hjl4 := HTL.out
         generalize hins : insT (ao.take j3) = ij at HINS HTL hjl4 ⊢
         have yy := HY5.out _ HB3.out
         rw [HAE.out] at yy
         clear HTL
         go_wp2_with fail
         refine (GCT.out _).mono ?_
         rintro e x3 ⟨rfl, hb⟩
         have HB4 := xh (HB3.out.trans (hb.mono HB3.out.size))
         clear hb
         go_wp2_with fail
         go_roundw
         case rel => exact ⟨j3 + 1, by omega, by rw [HINS.out]; go_num, by go_num, HB4⟩
         case measure => simp [intOf]; omega
        ·obtain rfl : j3 = ao.length := by omega
         rw [List.take_length]
         have htl := Nat.le_trans (yy628 ao) HTLEN.out
         have yy := HY5.out _ HB3.out
         generalize insT ao = it at HR0 htl ⊢
         go_wp2_with fail
         go_roundw
         case rel => exact ⟨j + 1, N + it, by omega, by go_num, by go_num, trivial, trivial, trivial, trivial, by omega, HR0, xh (HBC.out.trans (HB3.out.mono HBC.out.size))⟩
         case measure => simp [intOf]; omega
  ·have HCE : Hid (chkR l [] N = T) := xh (by have := HCK.out; rwa [List.take_of_length_le (by omega), List.drop_of_length_le (by omega)] at this)
   by_cases hbig : 2000 < N
   ·have HF : Hid (T = 3) := xh (by rw [← HCE.out]; exact yy680 hbig)
    have hbi : (2000 : Int) < (N : Int) := by omega
    go_wp2
    go_ret
    exact ⟨by rw [HF.out]; rfl, HBEL.out⟩
   ·have HF : Hid (T = 0) := xh (by rw [← HCE.out]; exact yy255 hbig)
    have hbi : ¬ (2000 : Int) < (N : Int) := by omega
    go_wp2
    go_ret
    exact ⟨by rw [HF.out]; rfl, HBEL.out⟩
theorem kNDoE {l : List NodeV} (h : TreeM l) {a : ActV} (ha : ActOk a) (hk : a.kind = 4) (A : Option Addr) (c : Nat) (w : World) (hop : yy6 w a.opsA a.ops) (hC : NodesC w A c l) :
  Calls Tryd.prog 33 #[.slice A l.length c, .agg (yy0 a).toArray] w fun e w' => NDoO w w' (rDo l a) e ∧ Below w.heap.size w w' := by
 have hl := h.len
 obtain ⟨⟨_, _, _, hn, _, hoc, hom⟩, hn2, hf, ht⟩ := ha
 cases hq : rFind l a.id with
 | none =>
  refine (yy417 A c l a (by omega) (.inr hk) (fun q => by rw [hq]; simp) w hC).mono ?_
  rintro e w' ⟨⟨A', c', he, hn⟩, hb⟩
  have h5 : (rDo l a).2 ≠ 0 := by rw [rDo_e1 hk hq]; show (5 : Int) ≠ 0; decide
  exact ⟨⟨A', c', he, hn, fun h => absurd h h5⟩, hb⟩
 | some q =>
  exact yy361 A c l a (by omega) h.good (fun y hy => by have := (h.nd y hy).2.2.2.2.1; omega) hk hq (yy47 hq).1 (by omega) hf (by omega) w hop hC
set_option maxHeartbeats 4000000 in
set_option maxRecDepth 100000 in
theorem yy107 {T : List NodeV} (hm : TreeM T) (A : Option Addr) (c : Nat) (B : Option Addr) (d : Nat) (l : List ActV) (hl : l.length ≤ maxLen) (hok : ∀ a ∈ l, ActOk a) (hk4 : ∀ a ∈ l, a.kind = 4) (w : World) (hA : NodesC w A c T) (hB : ActsAt w B l) :
  Calls Tryd.prog 13 #[.slice A T.length c, .slice B l.length d] w fun e w' => (∃ AX cX, e = .returned (.tuple #[.slice AX (doAllV T l).1.length cX, .int .i64 (doAllV T l).2.1, .int .i64 (doAllV T l).2.2]) ∧ NodesC w' AX cX (doAllV T l).1 ∧ ((doAllV T l).2.2 = 0 → l ≠ [] → OwnN w' w.heap.size AX cX (doAllV T l).1)) ∧ Below w.heap.size w w' := by
 have GC := xh (yy540 B d l hl hok w hB)
 unfold maxLen at hl
 obtain ⟨Y, p, u, HV⟩ : ∃ Y p u, Hid (doAllV T l = (Y, p, u)) := ⟨_, _, _, xh rfl⟩
 rw [HV.out]
 have HE : Hid (rChk l ≠ 0 → Y = [] ∧ p = -1 ∧ u = rChk l) := xh (fun h => by
  have := HV.out
  rw [doAllV, if_pos h] at this
  injection this with a b
  injection b with b c
  exact ⟨a.symm, b.symm, c.symm⟩)
 have HD : Hid (rChk l = 0 → doR T l 0 = (Y, p, u)) := xh (fun h => by
  have := HV.out
  rw [doAllV, if_neg (fun g => g h)] at this
  exact this)
 have HM := xh hm
 have HLN : Hid (rChk l ≠ 0 → u ≠ 0) := xh (fun h => by obtain ⟨_, _, e⟩ := HE.out h; rw [e]; exact h)
 have HA := xh hA
 have HB := xh hB
 clear HV hm hA hB
 generalize rChk l = r at GC HE HD HLN
 go_enter Tryd.func13, Tryd.ntmps13
 go_wp2_with fail
 refine GC.out.mono ?_
 rintro e x1 ⟨rfl, hb⟩
 replace HA := xh (HA.out.below hb)
 replace HB := xh (HB.out.below hb)
 have HBEL := xh hb
 clear hb GC
 by_cases hr : r = 0
 rotate_left
 ·have HUN := xh (HLN.out hr)
  obtain ⟨e1, e2, e3⟩ := HE.out hr
  subst e1 e2 e3
  have hrn : (u != 0) = true := by simpa using hr
  clear hr HE HD HLN
  go_wp2
  go_ret3
  exact ⟨⟨none, 0, rfl, ⟨.inl rfl, Nat.le_refl _⟩, fun h => absurd h HUN.out⟩, HBEL.out⟩
 have HR := xh (HD.out hr)
 have hrn : (r != 0) = false := by rw [hr]; rfl
 clear HE HD hr HLN
 go_wp2_with fail
 go_loopw [0, 8, 9, 10] (fun s0 s8 s9 s10 wr => ∃ (k : Nat) (T2 : List NodeV) (AX : Option Addr) (cX : Nat), k ≤ l.length ∧ s0 = .slice AX T2.length cX ∧ s8 = .int .i64 (k : Int) ∧ s9 = s9 ∧ s10 = s10 ∧ Hid (TreeM T2) ∧ Hid (doR T2 (l.drop k) k = (Y, p, u)) ∧ Hid (NodesC wr AX cX T2) ∧ Hid (0 < k → OwnN wr w.heap.size AX cX T2) ∧ Hid (ActsAt wr B l) ∧ Hid (Below w.heap.size w wr)) (fun _ s8 _ _ _ => l.length - (intOf s8).toNat)
 case atStart => exact ⟨0, T, A, c, Nat.zero_le _, rfl, rfl, rfl, rfl, HM, HR, HA, xh (fun h => absurd h (Nat.lt_irrefl 0)), HB, HBEL⟩
 case round =>
  clear HM HR HA HB HBEL
  obtain ⟨k, T2, AX, cX, hk, rfl, rfl, _, _, HM, HR, HA, HOW, HB, HBEL⟩ := hrel
  by_cases hlt : k < l.length
  ·obtain ⟨b, off, rfl, _⟩ := HB.out.form (by omega)
   have hltI : (k : Int) < (l.length : Int) := by omega
   obtain ⟨z0, z1, z2, z3, z4, z5⟩ := HB.out.at_ hlt
   have HCO := xh (HB.out.2 _ (List.getElem_mem hlt))
   have hact := hok _ (List.getElem_mem hlt)
   have hakd := hk4 _ (List.getElem_mem hlt)
   have HR2 : Hid (doR T2 (l[k] :: l.drop (k + 1)) k = (Y, p, u)) := xh (by rw [← List.drop_eq_getElem_cons hlt]; exact HR.out)
   clear HR
   generalize l[k] = a at z0 z1 z2 z3 z4 z5 HCO hact HR2 hakd
   obtain ⟨X, v, hXv⟩ : ∃ X v, rDo T2 a = (X, v) := ⟨_, _, rfl⟩
   have HX : Hid (TreeM X) := by
    have := HM.out.does a
    rw [hXv] at this
    exact this
   have GD := xh (fun w hop hC => kNDoE HM.out hact hakd AX cX w hop hC)
   rw [hXv] at GD
   unfold yy0 at GD
   have HST : Hid (v ≠ 0 → (Y, p, u) = ([], (k : Int), v)) := xh (fun h => by rw [← HR2.out]; exact yy495 hXv h)
   have HGO : Hid (v = 0 → doR X (l.drop (k + 1)) (k + 1) = (Y, p, u)) := xh (fun h => by rw [← HR2.out]; exact (yy494 (by rw [hXv, h])).symm)
   clear hXv hact HR2 hakd HOW
   go_wp2_with fail
   refine (GD.out _ HCO.out HA.out).mono ?_
   rintro e x2 ⟨⟨A1, c1, rfl, hn, hon⟩, hb⟩
   have HN := xh hn
   have HON : Hid (v = 0 → OwnN x2 w.heap.size A1 c1 X) := xh (fun h => yy34 (hon h) HBEL.out.size)
   replace HB := xh (HB.out.below hb)
   replace HBEL := xh (HBEL.out.trans (hb.mono HBEL.out.size))
   clear hb hn hon z0 z1 z2 z3 z4 z5 HCO GD HA
   by_cases hv : v = 0
   ·have HR3 := xh (HGO.out hv)
    have HOX := xh (HON.out hv)
    have hvn : (v != 0) = false := by rw [hv]; rfl
    clear hv HGO HST
    go_wp2
    go_roundw
    case rel => exact ⟨k + 1, X, A1, c1, by omega, rfl, by go_num, trivial, trivial, HX, HR3, HN, xh (fun _ => HOX.out), HB, HBEL⟩
    case measure => simp [intOf]; omega
   ·have e := HST.out hv
    injection e with e1 e2
    injection e2 with e2 e3
    subst e1 e2 e3
    have hvn : (u != 0) = true := by simpa using hv
    have HUN := xh hv
    clear hv HGO HST
    go_wp2
    go_ret3
    exact ⟨⟨none, 0, rfl, ⟨.inl rfl, Nat.le_refl _⟩, fun h => absurd h HUN.out⟩, HBEL.out⟩
  ·obtain rfl : k = l.length := by omega
   have e : (T2, ((l.length : Nat) : Int), (0 : Int)) = (Y, p, u) := by
    have := HR.out
    rw [List.drop_length] at this
    exact this
   injection e with e1 e2
   injection e2 with e2 e3
   subst e1 e2 e3
   go_wp2
   go_ret3
   exact ⟨⟨AX, cX, rfl, HA.out, fun h => HOW.out (Nat.pos_of_ne_zero (fun e => h (List.length_eq_zero_iff.1 e)))⟩, HBEL.out⟩
end Go.Proofs.YtjpjdkdbgjipnaaDoor
