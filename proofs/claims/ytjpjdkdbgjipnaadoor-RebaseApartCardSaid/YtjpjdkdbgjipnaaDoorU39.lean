/- The document's own Sound: are nodes a tree? Conditions: no more than 2^20 nodes, nodes that may be, texts of no more than 2^30 bytes. -/
import Derived.Test.YtjpjdkdbgjipnaaDoorU36
import Derived.Test.YtjpjdkdbgjipnaaDoorU5
import Derived.Test.YtjpjdkdbgjipnaaDoorU9
import Derived.Test.YtjpjdkdbgjipnaaDoorU1
import Derived.Deep.CutRange
namespace Go.Proofs.YtjpjdkdbgjipnaaDoor
open Go.RowKit Go.Deep
set_option maxHeartbeats 8000000 in
set_option maxRecDepth 100000 in
theorem yy467 (A : Option Addr) (c : Nat) (l : List NodeV) (hl : l.length ≤ 1048576) (hg : ∀ y ∈ l, y.Good) (ht : ∀ y ∈ l, y.text.length ≤ 1073741824) (w : World) (hA : yy14 w A l) :
  Calls Tryd.prog 11 #[.slice A l.length c] w fun e w' => e = .returned (.bool (rSound l)) ∧ Below w.heap.size w w' := by
 have HA := xh hA; clear hA
 have HG := xh hg; clear hg
 have HT := xh ht; clear ht
 obtain ⟨T, HTT⟩ : ∃ T, Hid (rSound l = T) := ⟨_, xh rfl⟩
 rw [HTT.out]
 have HBAD : Hid (∀ (k : Nat) (hk : k < l.length), ¬ NodeOk l k l[k] → T = false) := xh (fun k hk h => by rw [← HTT.out]; exact yy348 fun g => h (g.2 k hk))
 by_cases h100 : 100 < l.length
 ·have HF : Hid (T = false) := xh (by rw [← HTT.out]; exact yy348 fun g => by have := g.1; omega)
  have h100i : (100 : Int) < (l.length : Int) := by omega
  go_enter Tryd.func11, Tryd.ntmps11
  go_wp2
  go_ret
  exact ⟨by rw [HF.out]; rfl, Below.refl _ _⟩
 have h100i : ¬ (100 : Int) < (l.length : Int) := by omega
 go_enter Tryd.func11, Tryd.ntmps11
 go_wp2
 go_loopw [2, 3, 4] (fun r n i wr => ∃ k : Nat, k ≤ l.length ∧ r = .bool false ∧ n = .int .i64 ((rTotal (l.take k) : Nat) : Int) ∧ i = .int .i64 (k : Int) ∧ Below w.heap.size w wr ∧ Hid (rTotal (l.take k) ≤ 10000 ∧ ∀ (j : Nat) (hj : j < l.length), j < k → NodeOk l j l[j])) (fun _ _ i _ => l.length - (intOf i).toNat)
 case atStart => exact ⟨0, Nat.zero_le _, rfl, by rw [List.take_zero, yy242]; rfl, rfl, Below.refl _ _, xh ⟨by rw [List.take_zero, yy242]; omega, fun j _ h => by omega⟩⟩
 case round =>
  obtain ⟨k, hk, rfl, rfl, rfl, hbel, HN⟩ := hrel
  have HBEL := xh hbel; clear hbel
  by_cases hlt : k < l.length
  ·have HAW := xh (HA.out.below HBEL.out)
   obtain ⟨b, off, rfl, _⟩ := HA.out.form (by omega)
   obtain ⟨z0, z1, z2, z3, z4⟩ := HAW.out.at_ hlt
   have HBADK := xh (HBAD.out k hlt)
   have HTK := xh (yy271 l hlt)
   have hgq := HG.out l[k] (List.getElem_mem hlt)
   have htq := HT.out l[k] (List.getElem_mem hlt)
   have HNN : Hid (NodeOk l k l[k] → ∀ (j : Nat) (hj : j < l.length), j < k + 1 → NodeOk l j l[j]) := xh (fun h j hj hjk => by
    rcases Nat.lt_or_ge j k with g | g
    ·exact HN.out.2 j hj g
    ·obtain rfl : j = k := by omega
     exact h)
   generalize l[k] = x at z0 z1 z2 z3 z4 HBADK HTK hgq htq HNN
   obtain ⟨xi, xp, xn, xd, xt⟩ := x
   simp only at z0 z1 z2 z3 z4 HTK htq
   have hki : (k : Int) < (l.length : Int) := by omega
   have HGQ := xh hgq
   clear hgq
   have hsz := bstr_size xt
   obtain ⟨bd, HBD⟩ : ∃ bd, Hid (headB l k ⟨xi, xp, xn, xd, xt⟩ = bd) := ⟨_, xh rfl⟩
   go_upto_region 8 with fail
   obtain ⟨wn, HWN⟩ : ∃ x, Hid (wr.alloc (.cells #[.int .i64 xi, .int .i64 xp, .string (bstr xn), .bool xd, .string (bstr xt)] 44) = x) := ⟨_, xh rfl⟩
   rw [HWN.out]
   have HNC : Hid (∀ (f : Nat) (v : Value), (yy8 ⟨xi, xp, xn, xd, xt⟩)[f]? = some v → wn.drew.cell? ⟨wr.heap.size, f, none⟩ = some v) := by
    intro f v hf
    show wn.cell? _ = _
    rw [← HWN.out, cell_of_row _ _ _ _ _ _ (heap_alloc_new wr _)]
    simpa [yy8] using hf
   have HBN : Hid (Below w.heap.size w wn) := by
    show Below _ _ _
    rw [← HWN.out]
    exact HBEL.out.alloc HBEL.out.size _
   have hsn : wr.heap.size < wn.heap.size := by rw [← HWN.out]; simp
   have HAN : Hid (yy14 wn.drew (some ⟨b, off, none⟩) l) := xh ((HA.out.below HBN.out).drew)
   clear HAW
   go_cut [81] from 21 to 118 (fun s81 wc => Below wn.heap.size wn wc ∧ s81 = .bool bd)
   case first =>
    have HAD := HAN
    have GN := xh (fun v => yy94 xn HGQ.out.2.2.1.1 HGQ.out.2.2.1.2 v)
    obtain ⟨ch, HCH⟩ : ∃ ch, Hid (rChild l xp xn = ch) := ⟨_, xh rfl⟩
    have GC := xh (fun v h => yy270 (some ⟨b, off, none⟩) c l xp xn (by unfold maxLen; omega) HG.out HGQ.out.2.2.1.1 v h)
    rw [HCH.out] at GC
    have GV := xh (fun v => yy171 xt HGQ.out.2.2.2.1 (by omega) v)
    have e0 := fun e : Ext wn.drew => Ext.cell (w := wn.drew) (HNC.out 0 _ rfl) e
    have e1 := fun e : Ext wn.drew => Ext.cell (w := wn.drew) (HNC.out 1 _ rfl) e
    have e2 := fun e : Ext wn.drew => Ext.cell (w := wn.drew) (HNC.out 2 _ rfl) e
    have e3 := fun e : Ext wn.drew => Ext.cell (w := wn.drew) (HNC.out 3 _ rfl) e
    have e4 := fun e : Ext wn.drew => Ext.cell (w := wn.drew) (HNC.out 4 _ rfl) e
    by_cases i1 : xi < 1
    ·have HF := xh (yy46 (l := l) (k := k) (x := ⟨xi, xp, xn, xd, xt⟩) (fun h => by have := h.1; simp only at this; omega))
     have d1 : decide (xi < 1) = true := decide_eq_true i1
     refine wp_region_lit sc11 (by kernel_rfl) (by kernel_rfl) (fun _ _ d _ _ h => by cases d <;> exact h) ?_
     simp only [picked, sc11, xmc, xmn, xgs, xgz, xgd]
     repeat (first | (refine yy0 (by rfl) (fun K hK => ?_); go_big_quiet_op; refine hK _ ?_; clear hK K) | (refine yy2 (by rfl) ?_; simp only [Act.put, xsa, xsz, xss]) | (simp only [d1, xb9, xb0, xb7, xb8, xb6, xb5, xb4, xb2, xb1, xb3]))
     refine yy13 ?_
     go_wp2_with fail
     go_meet
     case rel => exact ⟨Below.drew (Below.refl _ wn), by rw [← HBD.out, HF.out]⟩
    have d1 : decide (xi < 1) = false := decide_eq_false i1
    by_cases i2 : 1099511627776 < xi
    ·have HF := xh (yy46 (l := l) (k := k) (x := ⟨xi, xp, xn, xd, xt⟩) (fun h => by have := h.2.1; simp only at this; omega))
     have d2 : decide (1099511627776 < xi) = true := decide_eq_true i2
     refine wp_region_lit sc11 (by kernel_rfl) (by kernel_rfl) (fun _ _ d _ _ h => by cases d <;> exact h) ?_
     simp only [picked, sc11, xmc, xmn, xgs, xgz, xgd]
     repeat (first | (refine yy0 (by rfl) (fun K hK => ?_); go_big_quiet_op; refine hK _ ?_; clear hK K) | (refine yy2 (by rfl) ?_; simp only [Act.put, xsa, xsz, xss]) | (simp only [d1, d2, xb9, xb0, xb7, xb8, xb6, xb5, xb4, xb2, xb1, xb3]))
     refine yy13 ?_
     go_wp2_with fail
     go_meet
     case rel => exact ⟨Below.drew (Below.refl _ wn), by rw [← HBD.out, HF.out]⟩
    have d2 : decide (1099511627776 < xi) = false := decide_eq_false i2
    by_cases k0 : k = 0
    ·have d3 : decide ((0 : Int) < (k : Int)) = false := decide_eq_false (by omega)
     have d3n : decide (0 < k) = false := decide_eq_false (by omega)
     have HPREV : Hid (∀ j, j + 1 = k → ∀ y, l[j]? = some y → y.id < xi) := xh (fun j h => by omega)
     clear k0
     by_cases i4 : IsName xn
     rotate_left
     ·have HF := xh (yy46 (l := l) (k := k) (x := ⟨xi, xp, xn, xd, xt⟩) (fun h => i4 h.2.2.2.1))
      rw [yy210 i4] at GN
      refine wp_region_lit sc11 (by kernel_rfl) (by kernel_rfl) (fun _ _ d _ _ h => by cases d <;> exact h) ?_
      simp only [picked, sc11, xmc, xmn, xgs, xgz, xgd]
      repeat (first | (refine yy0 (by rfl) (fun K hK => ?_); go_big_quiet_op; refine hK _ ?_; clear hK K) | (refine yy2 (by rfl) ?_; simp only [Act.put, xsa, xsz, xss]) | (simp only [d1, d2, d3, d3n, xb9, xb0, xb7, xb8, xb6, xb5, xb4, xb2, xb1, xb3]))
      refine yy4 (by rfl) (fun K hK => ?_)
      go_simp
      refine (GN.out _).mono ?_
      rintro e v ⟨rfl, rfl⟩
      refine hK _ _ (Below.refl _ _) ?_
      clear hK K
      repeat (first | (refine yy0 (by rfl) (fun K hK => ?_); go_big_quiet_op; refine hK _ ?_; clear hK K) | (refine yy2 (by rfl) ?_; simp only [Act.put, xsa, xsz, xss]) | (simp only [d1, d2, d3, d3n, xb9, xb0, xb7, xb8, xb6, xb5, xb4, xb2, xb1, xb3]))
      refine yy13 ?_
      go_wp2_with fail
      go_meet
      case rel => exact ⟨Below.drew (Below.refl _ wn), by rw [← HBD.out, HF.out]⟩
     rw [yy104 i4] at GN
     by_cases i5 : ch = xi
     rotate_left
     ·have HF := xh (yy46 (l := l) (k := k) (x := ⟨xi, xp, xn, xd, xt⟩) (fun h => i5 (HCH.out ▸ h.2.2.2.2.1)))
      have d5 : (ch != xi) = true := by simpa using i5
      refine wp_region_lit sc11 (by kernel_rfl) (by kernel_rfl) (fun _ _ d _ _ h => by cases d <;> exact h) ?_
      simp only [picked, sc11, xmc, xmn, xgs, xgz, xgd]
      repeat (first | (refine yy0 (by rfl) (fun K hK => ?_); go_big_quiet_op; refine hK _ ?_; clear hK K) | (refine yy2 (by rfl) ?_; simp only [Act.put, xsa, xsz, xss]) | (simp only [d1, d2, d3, d3n, d5, xb9, xb0, xb7, xb8, xb6, xb5, xb4, xb2, xb1, xb3]))
      refine yy4 (by rfl) (fun K hK => ?_)
      go_simp
      refine (GN.out _).mono ?_
      rintro e v ⟨rfl, rfl⟩
      refine hK _ _ (Below.refl _ _) ?_
      clear hK K
      repeat (first | (refine yy0 (by rfl) (fun K hK => ?_); go_big_quiet_op; refine hK _ ?_; clear hK K) | (refine yy2 (by rfl) ?_; simp only [Act.put, xsa, xsz, xss]) | (simp only [d1, d2, d3, d3n, d5, xb9, xb0, xb7, xb8, xb6, xb5, xb4, xb2, xb1, xb3]))
      refine yy4 (by rfl) (fun K hK => ?_)
      go_simp
      refine (GC.out _ HAD.out).mono ?_
      rintro e v ⟨rfl, rfl⟩
      refine hK _ _ (Below.refl _ _) ?_
      clear hK K
      repeat (first | (refine yy0 (by rfl) (fun K hK => ?_); go_big_quiet_op; refine hK _ ?_; clear hK K) | (refine yy2 (by rfl) ?_; simp only [Act.put, xsa, xsz, xss]) | (simp only [d1, d2, d3, d3n, d5, xb9, xb0, xb7, xb8, xb6, xb5, xb4, xb2, xb1, xb3]))
      refine yy13 ?_
      go_wp2_with fail
      go_meet
      case rel => exact ⟨Below.drew (Below.refl _ wn), by rw [← HBD.out, HF.out]⟩
     have d5 : (ch != xi) = false := by rw [i5]; simp
     cases xd with
     | false =>
      by_cases i7 : 8000 < (xt).length
      ·have HF := xh (yy46 (l := l) (k := k) (x := ⟨xi, xp, xn, false, xt⟩) (fun h => by have := h.2.2.2.2.2.2.1; simp only at this; omega))
       have d7 : decide ((8000 : Int) < ((xt).length : Int)) = true := decide_eq_true (by omega)
       have d7n : decide (8000 < (xt).length) = true := decide_eq_true (by omega)
       refine wp_region_lit sc11 (by kernel_rfl) (by kernel_rfl) (fun _ _ d _ _ h => by cases d <;> exact h) ?_
       simp only [picked, sc11, xmc, xmn, xgs, xgz, xgd]
       repeat (first | (refine yy0 (by rfl) (fun K hK => ?_); go_big_quiet_op; refine hK _ ?_; clear hK K) | (refine yy2 (by rfl) ?_; simp only [Act.put, xsa, xsz, xss]) | (simp only [d1, d2, d3, d3n, d5, d7, d7n, xb9, xb0, xb7, xb8, xb6, xb5, xb4, xb2, xb1, xb3]))
       refine yy4 (by rfl) (fun K hK => ?_)
       go_simp
       refine (GN.out _).mono ?_
       rintro e v ⟨rfl, rfl⟩
       refine hK _ _ (Below.refl _ _) ?_
       clear hK K
       repeat (first | (refine yy0 (by rfl) (fun K hK => ?_); go_big_quiet_op; refine hK _ ?_; clear hK K) | (refine yy2 (by rfl) ?_; simp only [Act.put, xsa, xsz, xss]) | (simp only [d1, d2, d3, d3n, d5, d7, d7n, xb9, xb0, xb7, xb8, xb6, xb5, xb4, xb2, xb1, xb3]))
       refine yy4 (by rfl) (fun K hK => ?_)
       go_simp
       refine (GC.out _ HAD.out).mono ?_
       rintro e v ⟨rfl, rfl⟩
       refine hK _ _ (Below.refl _ _) ?_
       clear hK K
       repeat (first | (refine yy0 (by rfl) (fun K hK => ?_); go_big_quiet_op; refine hK _ ?_; clear hK K) | (refine yy2 (by rfl) ?_; simp only [Act.put, xsa, xsz, xss]) | (simp only [d1, d2, d3, d3n, d5, d7, d7n, xb9, xb0, xb7, xb8, xb6, xb5, xb4, xb2, xb1, xb3]))
       refine yy13 ?_
       go_wp2_with fail
       go_meet
       case rel => exact ⟨Below.drew (Below.refl _ wn), by rw [← HBD.out, HF.out]⟩
      have d7 : decide ((8000 : Int) < ((xt).length : Int)) = false := decide_eq_false (by omega)
      have d7n : decide (8000 < (xt).length) = false := decide_eq_false (by omega)
      cases i8 : validB xt with
      | false =>
       have HF := xh (yy46 (l := l) (k := k) (x := ⟨xi, xp, xn, false, xt⟩) (fun h => by have := h.2.2.2.2.2.2.2; simp only at this; rw [i8] at this; cases this))
       rw [i8] at GV
       refine wp_region_lit sc11 (by kernel_rfl) (by kernel_rfl) (fun _ _ d _ _ h => by cases d <;> exact h) ?_
       simp only [picked, sc11, xmc, xmn, xgs, xgz, xgd]
       repeat (first | (refine yy0 (by rfl) (fun K hK => ?_); go_big_quiet_op; refine hK _ ?_; clear hK K) | (refine yy2 (by rfl) ?_; simp only [Act.put, xsa, xsz, xss]) | (simp only [d1, d2, d3, d3n, d5, d7, d7n, xb9, xb0, xb7, xb8, xb6, xb5, xb4, xb2, xb1, xb3]))
       refine yy4 (by rfl) (fun K hK => ?_)
       go_simp
       refine (GN.out _).mono ?_
       rintro e v ⟨rfl, rfl⟩
       refine hK _ _ (Below.refl _ _) ?_
       clear hK K
       repeat (first | (refine yy0 (by rfl) (fun K hK => ?_); go_big_quiet_op; refine hK _ ?_; clear hK K) | (refine yy2 (by rfl) ?_; simp only [Act.put, xsa, xsz, xss]) | (simp only [d1, d2, d3, d3n, d5, d7, d7n, xb9, xb0, xb7, xb8, xb6, xb5, xb4, xb2, xb1, xb3]))
       refine yy4 (by rfl) (fun K hK => ?_)
       go_simp
       refine (GC.out _ HAD.out).mono ?_
       rintro e v ⟨rfl, rfl⟩
       refine hK _ _ (Below.refl _ _) ?_
       clear hK K
       repeat (first | (refine yy0 (by rfl) (fun K hK => ?_); go_big_quiet_op; refine hK _ ?_; clear hK K) | (refine yy2 (by rfl) ?_; simp only [Act.put, xsa, xsz, xss]) | (simp only [d1, d2, d3, d3n, d5, d7, d7n, xb9, xb0, xb7, xb8, xb6, xb5, xb4, xb2, xb1, xb3]))
       refine yy4 (by rfl) (fun K hK => ?_)
       go_simp
       refine (GV.out _).mono ?_
       rintro e v ⟨rfl, hb⟩
       have HBV : Hid (Below wn.heap.size wn v) := xh ((Below.drew (Below.refl _ wn)).trans (hb.mono (by simp)))
       refine hK _ _ hb ?_
       clear hK K hb
       repeat (first | (refine yy0 (by rfl) (fun K hK => ?_); go_big_quiet_op; refine hK _ ?_; clear hK K) | (refine yy2 (by rfl) ?_; simp only [Act.put, xsa, xsz, xss]) | (simp only [d1, d2, d3, d3n, d5, d7, d7n, xb9, xb0, xb7, xb8, xb6, xb5, xb4, xb2, xb1, xb3]))
       refine yy13 ?_
       go_wp2_with fail
       go_meet
       case rel => exact ⟨HBV.out, by rw [← HBD.out, HF.out]⟩
      | true =>
       have HF := xh (yy278 (l := l) (k := k) (x := ⟨xi, xp, xn, false, xt⟩) ⟨by show 1 ≤ xi; omega, by show xi ≤ 1099511627776; omega, HPREV.out, i4, HCH.out.trans i5, (fun h => by cases h), by show (xt).length ≤ 8000; omega, i8⟩)
       rw [i8] at GV
       refine wp_region_lit sc11 (by kernel_rfl) (by kernel_rfl) (fun _ _ d _ _ h => by cases d <;> exact h) ?_
       simp only [picked, sc11, xmc, xmn, xgs, xgz, xgd]
       repeat (first | (refine yy0 (by rfl) (fun K hK => ?_); go_big_quiet_op; refine hK _ ?_; clear hK K) | (refine yy2 (by rfl) ?_; simp only [Act.put, xsa, xsz, xss]) | (simp only [d1, d2, d3, d3n, d5, d7, d7n, xb9, xb0, xb7, xb8, xb6, xb5, xb4, xb2, xb1, xb3]))
       refine yy4 (by rfl) (fun K hK => ?_)
       go_simp
       refine (GN.out _).mono ?_
       rintro e v ⟨rfl, rfl⟩
       refine hK _ _ (Below.refl _ _) ?_
       clear hK K
       repeat (first | (refine yy0 (by rfl) (fun K hK => ?_); go_big_quiet_op; refine hK _ ?_; clear hK K) | (refine yy2 (by rfl) ?_; simp only [Act.put, xsa, xsz, xss]) | (simp only [d1, d2, d3, d3n, d5, d7, d7n, xb9, xb0, xb7, xb8, xb6, xb5, xb4, xb2, xb1, xb3]))
       refine yy4 (by rfl) (fun K hK => ?_)
       go_simp
       refine (GC.out _ HAD.out).mono ?_
       rintro e v ⟨rfl, rfl⟩
       refine hK _ _ (Below.refl _ _) ?_
       clear hK K
       repeat (first | (refine yy0 (by rfl) (fun K hK => ?_); go_big_quiet_op; refine hK _ ?_; clear hK K) | (refine yy2 (by rfl) ?_; simp only [Act.put, xsa, xsz, xss]) | (simp only [d1, d2, d3, d3n, d5, d7, d7n, xb9, xb0, xb7, xb8, xb6, xb5, xb4, xb2, xb1, xb3]))
       refine yy4 (by rfl) (fun K hK => ?_)
       go_simp
       refine (GV.out _).mono ?_
       rintro e v ⟨rfl, hb⟩
       have HBV : Hid (Below wn.heap.size wn v) := xh ((Below.drew (Below.refl _ wn)).trans (hb.mono (by simp)))
       refine hK _ _ hb ?_
       clear hK K hb
       repeat (first | (refine yy0 (by rfl) (fun K hK => ?_); go_big_quiet_op; refine hK _ ?_; clear hK K) | (refine yy2 (by rfl) ?_; simp only [Act.put, xsa, xsz, xss]) | (simp only [d1, d2, d3, d3n, d5, d7, d7n, xb9, xb0, xb7, xb8, xb6, xb5, xb4, xb2, xb1, xb3]))
       refine yy13 ?_
       go_wp2_with fail
       go_meet
       case rel => exact ⟨HBV.out, by rw [← HBD.out, HF.out]⟩
     | true =>
      by_cases i6 : xt = []
      ·subst i6
       have d6 := yy152
       by_cases i7 : 8000 < (([] : List Nat)).length
       ·exact absurd i7 (by simp)
       have d7 : decide ((8000 : Int) < ((([] : List Nat)).length : Int)) = false := decide_eq_false (by omega)
       have d7n : decide (8000 < (([] : List Nat)).length) = false := decide_eq_false (by omega)
       cases i8 : validB ([] : List Nat) with
       | false =>
        have HF := xh (yy46 (l := l) (k := k) (x := ⟨xi, xp, xn, true, ([] : List Nat)⟩) (fun h => by have := h.2.2.2.2.2.2.2; simp only at this; rw [i8] at this; cases this))
        rw [i8] at GV
        refine wp_region_lit sc11 (by kernel_rfl) (by kernel_rfl) (fun _ _ d _ _ h => by cases d <;> exact h) ?_
        simp only [picked, sc11, xmc, xmn, xgs, xgz, xgd]
        repeat (first | (refine yy0 (by rfl) (fun K hK => ?_); go_big_quiet_op; refine hK _ ?_; clear hK K) | (refine yy2 (by rfl) ?_; simp only [Act.put, xsa, xsz, xss]) | (simp only [d1, d2, d3, d3n, d5, d6, d7, d7n, xb9, xb0, xb7, xb8, xb6, xb5, xb4, xb2, xb1, xb3]))
        refine yy4 (by rfl) (fun K hK => ?_)
        go_simp
        refine (GN.out _).mono ?_
        rintro e v ⟨rfl, rfl⟩
        refine hK _ _ (Below.refl _ _) ?_
        clear hK K
        repeat (first | (refine yy0 (by rfl) (fun K hK => ?_); go_big_quiet_op; refine hK _ ?_; clear hK K) | (refine yy2 (by rfl) ?_; simp only [Act.put, xsa, xsz, xss]) | (simp only [d1, d2, d3, d3n, d5, d6, d7, d7n, xb9, xb0, xb7, xb8, xb6, xb5, xb4, xb2, xb1, xb3]))
        refine yy4 (by rfl) (fun K hK => ?_)
        go_simp
        refine (GC.out _ HAD.out).mono ?_
        rintro e v ⟨rfl, rfl⟩
        refine hK _ _ (Below.refl _ _) ?_
        clear hK K
        repeat (first | (refine yy0 (by rfl) (fun K hK => ?_); go_big_quiet_op; refine hK _ ?_; clear hK K) | (refine yy2 (by rfl) ?_; simp only [Act.put, xsa, xsz, xss]) | (simp only [d1, d2, d3, d3n, d5, d6, d7, d7n, xb9, xb0, xb7, xb8, xb6, xb5, xb4, xb2, xb1, xb3]))
        refine yy4 (by rfl) (fun K hK => ?_)
        go_simp
        refine (GV.out _).mono ?_
        rintro e v ⟨rfl, hb⟩
        have HBV : Hid (Below wn.heap.size wn v) := xh ((Below.drew (Below.refl _ wn)).trans (hb.mono (by simp)))
        refine hK _ _ hb ?_
        clear hK K hb
        repeat (first | (refine yy0 (by rfl) (fun K hK => ?_); go_big_quiet_op; refine hK _ ?_; clear hK K) | (refine yy2 (by rfl) ?_; simp only [Act.put, xsa, xsz, xss]) | (simp only [d1, d2, d3, d3n, d5, d6, d7, d7n, xb9, xb0, xb7, xb8, xb6, xb5, xb4, xb2, xb1, xb3]))
        refine yy13 ?_
        go_wp2_with fail
        go_meet
        case rel => exact ⟨HBV.out, by rw [← HBD.out, HF.out]⟩
       | true =>
        have HF := xh (yy278 (l := l) (k := k) (x := ⟨xi, xp, xn, true, ([] : List Nat)⟩) ⟨by show 1 ≤ xi; omega, by show xi ≤ 1099511627776; omega, HPREV.out, i4, HCH.out.trans i5, (fun _ => rfl), by show (([] : List Nat)).length ≤ 8000; omega, i8⟩)
        rw [i8] at GV
        refine wp_region_lit sc11 (by kernel_rfl) (by kernel_rfl) (fun _ _ d _ _ h => by cases d <;> exact h) ?_
        simp only [picked, sc11, xmc, xmn, xgs, xgz, xgd]
        repeat (first | (refine yy0 (by rfl) (fun K hK => ?_); go_big_quiet_op; refine hK _ ?_; clear hK K) | (refine yy2 (by rfl) ?_; simp only [Act.put, xsa, xsz, xss]) | (simp only [d1, d2, d3, d3n, d5, d6, d7, d7n, xb9, xb0, xb7, xb8, xb6, xb5, xb4, xb2, xb1, xb3]))
        refine yy4 (by rfl) (fun K hK => ?_)
        go_simp
        refine (GN.out _).mono ?_
        rintro e v ⟨rfl, rfl⟩
        refine hK _ _ (Below.refl _ _) ?_
        clear hK K
        repeat (first | (refine yy0 (by rfl) (fun K hK => ?_); go_big_quiet_op; refine hK _ ?_; clear hK K) | (refine yy2 (by rfl) ?_; simp only [Act.put, xsa, xsz, xss]) | (simp only [d1, d2, d3, d3n, d5, d6, d7, d7n, xb9, xb0, xb7, xb8, xb6, xb5, xb4, xb2, xb1, xb3]))
        refine yy4 (by rfl) (fun K hK => ?_)
        go_simp
        refine (GC.out _ HAD.out).mono ?_
        rintro e v ⟨rfl, rfl⟩
        refine hK _ _ (Below.refl _ _) ?_
        clear hK K
        repeat (first | (refine yy0 (by rfl) (fun K hK => ?_); go_big_quiet_op; refine hK _ ?_; clear hK K) | (refine yy2 (by rfl) ?_; simp only [Act.put, xsa, xsz, xss]) | (simp only [d1, d2, d3, d3n, d5, d6, d7, d7n, xb9, xb0, xb7, xb8, xb6, xb5, xb4, xb2, xb1, xb3]))
        refine yy4 (by rfl) (fun K hK => ?_)
        go_simp
        refine (GV.out _).mono ?_
        rintro e v ⟨rfl, hb⟩
        have HBV : Hid (Below wn.heap.size wn v) := xh ((Below.drew (Below.refl _ wn)).trans (hb.mono (by simp)))
        refine hK _ _ hb ?_
        clear hK K hb
        repeat (first | (refine yy0 (by rfl) (fun K hK => ?_); go_big_quiet_op; refine hK _ ?_; clear hK K) | (refine yy2 (by rfl) ?_; simp only [Act.put, xsa, xsz, xss]) | (simp only [d1, d2, d3, d3n, d5, d6, d7, d7n, xb9, xb0, xb7, xb8, xb6, xb5, xb4, xb2, xb1, xb3]))
        refine yy13 ?_
        go_wp2_with fail
        go_meet
        case rel => exact ⟨HBV.out, by rw [← HBD.out, HF.out]⟩
      have d6 := yy169 i6
      have HF := xh (yy46 (l := l) (k := k) (x := ⟨xi, xp, xn, true, xt⟩) (fun h => i6 (h.2.2.2.2.2.1 rfl)))
      refine wp_region_lit sc11 (by kernel_rfl) (by kernel_rfl) (fun _ _ d _ _ h => by cases d <;> exact h) ?_
      simp only [picked, sc11, xmc, xmn, xgs, xgz, xgd]
      repeat (first | (refine yy0 (by rfl) (fun K hK => ?_); go_big_quiet_op; refine hK _ ?_; clear hK K) | (refine yy2 (by rfl) ?_; simp only [Act.put, xsa, xsz, xss]) | (simp only [d1, d2, d3, d3n, d5, d6, xb9, xb0, xb7, xb8, xb6, xb5, xb4, xb2, xb1, xb3]))
      refine yy4 (by rfl) (fun K hK => ?_)
      go_simp
      refine (GN.out _).mono ?_
      rintro e v ⟨rfl, rfl⟩
      refine hK _ _ (Below.refl _ _) ?_
      clear hK K
      repeat (first | (refine yy0 (by rfl) (fun K hK => ?_); go_big_quiet_op; refine hK _ ?_; clear hK K) | (refine yy2 (by rfl) ?_; simp only [Act.put, xsa, xsz, xss]) | (simp only [d1, d2, d3, d3n, d5, d6, xb9, xb0, xb7, xb8, xb6, xb5, xb4, xb2, xb1, xb3]))
      refine yy4 (by rfl) (fun K hK => ?_)
      go_simp
      refine (GC.out _ HAD.out).mono ?_
      rintro e v ⟨rfl, rfl⟩
      refine hK _ _ (Below.refl _ _) ?_
      clear hK K
      repeat (first | (refine yy0 (by rfl) (fun K hK => ?_); go_big_quiet_op; refine hK _ ?_; clear hK K) | (refine yy2 (by rfl) ?_; simp only [Act.put, xsa, xsz, xss]) | (simp only [d1, d2, d3, d3n, d5, d6, xb9, xb0, xb7, xb8, xb6, xb5, xb4, xb2, xb1, xb3]))
      refine yy13 ?_
      go_wp2_with fail
      go_meet
      case rel => exact ⟨Below.drew (Below.refl _ wn), by rw [← HBD.out, HF.out]⟩
    obtain ⟨j, rfl⟩ : ∃ j, k = j + 1 := ⟨k - 1, by omega⟩
    have d3 : decide ((0 : Int) < ((j + 1 : Nat) : Int)) = true := decide_eq_true (by omega)
    have d3n : decide (0 < j + 1) = true := decide_eq_true (by omega)
    have hjl : j < l.length := by omega
    have p0 := fun e : Ext wn.drew => Ext.cell (w := wn.drew) (HAN.out.at_ hjl).1 e
    have hj1 : ((j + 1 : Nat) : Int) - 1 = (j : Int) := by omega
    have hj2 : (j : Int) < (l.length : Int) := by omega
    have hj3 : (0 : Int) ≤ (j : Int) := by omega
    generalize hyy : l[j].id = pid at p0
    by_cases i3 : xi ≤ pid
    ·have HF := xh (yy46 (l := l) (k := j + 1) (x := ⟨xi, xp, xn, xd, xt⟩) (fun h => by have := h.2.2.1 j rfl _ (List.getElem?_eq_getElem hjl); simp only at this; omega))
     have d4 : decide (xi ≤ pid) = true := decide_eq_true i3
     refine wp_region_lit sc11 (by kernel_rfl) (by kernel_rfl) (fun _ _ d _ _ h => by cases d <;> exact h) ?_
     simp only [picked, sc11, xmc, xmn, xgs, xgz, xgd]
     repeat (first | (refine yy0 (by rfl) (fun K hK => ?_); go_big_quiet_op; refine hK _ ?_; clear hK K) | (refine yy2 (by rfl) ?_; simp only [Act.put, xsa, xsz, xss]) | (simp only [d1, d2, d3, d3n, d4, xb9, xb0, xb7, xb8, xb6, xb5, xb4, xb2, xb1, xb3]))
     refine yy13 ?_
     go_wp2_with fail
     go_meet
     case rel => exact ⟨Below.drew (Below.refl _ wn), by rw [← HBD.out, HF.out]⟩
    have d4 : decide (xi ≤ pid) = false := decide_eq_false i3
    have HPREV : Hid (∀ j', j' + 1 = j + 1 → ∀ y, l[j']? = some y → y.id < xi) := xh (fun j' h y hy => by
     obtain rfl : j' = j := by omega
     rw [List.getElem?_eq_getElem hjl] at hy
     injection hy with hy
     subst hy
     omega)
    by_cases i4 : IsName xn
    rotate_left
    ·have HF := xh (yy46 (l := l) (k := j + 1) (x := ⟨xi, xp, xn, xd, xt⟩) (fun h => i4 h.2.2.2.1))
     rw [yy210 i4] at GN
     refine wp_region_lit sc11 (by kernel_rfl) (by kernel_rfl) (fun _ _ d _ _ h => by cases d <;> exact h) ?_
     simp only [picked, sc11, xmc, xmn, xgs, xgz, xgd]
     repeat (first | (refine yy0 (by rfl) (fun K hK => ?_); go_big_quiet_op; refine hK _ ?_; clear hK K) | (refine yy2 (by rfl) ?_; simp only [Act.put, xsa, xsz, xss]) | (simp only [d1, d2, d3, d3n, d4, xb9, xb0, xb7, xb8, xb6, xb5, xb4, xb2, xb1, xb3]))
     refine yy4 (by rfl) (fun K hK => ?_)
     go_simp
     refine (GN.out _).mono ?_
     rintro e v ⟨rfl, rfl⟩
     refine hK _ _ (Below.refl _ _) ?_
     clear hK K
     repeat (first | (refine yy0 (by rfl) (fun K hK => ?_); go_big_quiet_op; refine hK _ ?_; clear hK K) | (refine yy2 (by rfl) ?_; simp only [Act.put, xsa, xsz, xss]) | (simp only [d1, d2, d3, d3n, d4, xb9, xb0, xb7, xb8, xb6, xb5, xb4, xb2, xb1, xb3]))
     refine yy13 ?_
     go_wp2_with fail
     go_meet
     case rel => exact ⟨Below.drew (Below.refl _ wn), by rw [← HBD.out, HF.out]⟩
    rw [yy104 i4] at GN
    by_cases i5 : ch = xi
    rotate_left
    ·have HF := xh (yy46 (l := l) (k := j + 1) (x := ⟨xi, xp, xn, xd, xt⟩) (fun h => i5 (HCH.out ▸ h.2.2.2.2.1)))
     have d5 : (ch != xi) = true := by simpa using i5
     refine wp_region_lit sc11 (by kernel_rfl) (by kernel_rfl) (fun _ _ d _ _ h => by cases d <;> exact h) ?_
     simp only [picked, sc11, xmc, xmn, xgs, xgz, xgd]
     repeat (first | (refine yy0 (by rfl) (fun K hK => ?_); go_big_quiet_op; refine hK _ ?_; clear hK K) | (refine yy2 (by rfl) ?_; simp only [Act.put, xsa, xsz, xss]) | (simp only [d1, d2, d3, d3n, d4, d5, xb9, xb0, xb7, xb8, xb6, xb5, xb4, xb2, xb1, xb3]))
     refine yy4 (by rfl) (fun K hK => ?_)
     go_simp
     refine (GN.out _).mono ?_
     rintro e v ⟨rfl, rfl⟩
     refine hK _ _ (Below.refl _ _) ?_
     clear hK K
     repeat (first | (refine yy0 (by rfl) (fun K hK => ?_); go_big_quiet_op; refine hK _ ?_; clear hK K) | (refine yy2 (by rfl) ?_; simp only [Act.put, xsa, xsz, xss]) | (simp only [d1, d2, d3, d3n, d4, d5, xb9, xb0, xb7, xb8, xb6, xb5, xb4, xb2, xb1, xb3]))
     refine yy4 (by rfl) (fun K hK => ?_)
     go_simp
     refine (GC.out _ HAD.out).mono ?_
     rintro e v ⟨rfl, rfl⟩
     refine hK _ _ (Below.refl _ _) ?_
     clear hK K
     repeat (first | (refine yy0 (by rfl) (fun K hK => ?_); go_big_quiet_op; refine hK _ ?_; clear hK K) | (refine yy2 (by rfl) ?_; simp only [Act.put, xsa, xsz, xss]) | (simp only [d1, d2, d3, d3n, d4, d5, xb9, xb0, xb7, xb8, xb6, xb5, xb4, xb2, xb1, xb3]))
     refine yy13 ?_
     go_wp2_with fail
     go_meet
     case rel => exact ⟨Below.drew (Below.refl _ wn), by rw [← HBD.out, HF.out]⟩
    have d5 : (ch != xi) = false := by rw [i5]; simp
    cases xd with
    | false =>
     by_cases i7 : 8000 < (xt).length
     ·have HF := xh (yy46 (l := l) (k := j + 1) (x := ⟨xi, xp, xn, false, xt⟩) (fun h => by have := h.2.2.2.2.2.2.1; simp only at this; omega))
      have d7 : decide ((8000 : Int) < ((xt).length : Int)) = true := decide_eq_true (by omega)
      have d7n : decide (8000 < (xt).length) = true := decide_eq_true (by omega)
      refine wp_region_lit sc11 (by kernel_rfl) (by kernel_rfl) (fun _ _ d _ _ h => by cases d <;> exact h) ?_
      simp only [picked, sc11, xmc, xmn, xgs, xgz, xgd]
      repeat (first | (refine yy0 (by rfl) (fun K hK => ?_); go_big_quiet_op; refine hK _ ?_; clear hK K) | (refine yy2 (by rfl) ?_; simp only [Act.put, xsa, xsz, xss]) | (simp only [d1, d2, d3, d3n, d4, d5, d7, d7n, xb9, xb0, xb7, xb8, xb6, xb5, xb4, xb2, xb1, xb3]))
      refine yy4 (by rfl) (fun K hK => ?_)
      go_simp
      refine (GN.out _).mono ?_
      rintro e v ⟨rfl, rfl⟩
      refine hK _ _ (Below.refl _ _) ?_
      clear hK K
      repeat (first | (refine yy0 (by rfl) (fun K hK => ?_); go_big_quiet_op; refine hK _ ?_; clear hK K) | (refine yy2 (by rfl) ?_; simp only [Act.put, xsa, xsz, xss]) | (simp only [d1, d2, d3, d3n, d4, d5, d7, d7n, xb9, xb0, xb7, xb8, xb6, xb5, xb4, xb2, xb1, xb3]))
      refine yy4 (by rfl) (fun K hK => ?_)
      go_simp
      refine (GC.out _ HAD.out).mono ?_
      rintro e v ⟨rfl, rfl⟩
      refine hK _ _ (Below.refl _ _) ?_
      clear hK K
      repeat (first | (refine yy0 (by rfl) (fun K hK => ?_); go_big_quiet_op; refine hK _ ?_; clear hK K) | (refine yy2 (by rfl) ?_; simp only [Act.put, xsa, xsz, xss]) | (simp only [d1, d2, d3, d3n, d4, d5, d7, d7n, xb9, xb0, xb7, xb8, xb6, xb5, xb4, xb2, xb1, xb3]))
      refine yy13 ?_
      go_wp2_with fail
      go_meet
      case rel => exact ⟨Below.drew (Below.refl _ wn), by rw [← HBD.out, HF.out]⟩
     have d7 : decide ((8000 : Int) < ((xt).length : Int)) = false := decide_eq_false (by omega)
     have d7n : decide (8000 < (xt).length) = false := decide_eq_false (by omega)
     cases i8 : validB xt with
     | false =>
      have HF := xh (yy46 (l := l) (k := j + 1) (x := ⟨xi, xp, xn, false, xt⟩) (fun h => by have := h.2.2.2.2.2.2.2; simp only at this; rw [i8] at this; cases this))
      rw [i8] at GV
      refine wp_region_lit sc11 (by kernel_rfl) (by kernel_rfl) (fun _ _ d _ _ h => by cases d <;> exact h) ?_
      simp only [picked, sc11, xmc, xmn, xgs, xgz, xgd]
      repeat (first | (refine yy0 (by rfl) (fun K hK => ?_); go_big_quiet_op; refine hK _ ?_; clear hK K) | (refine yy2 (by rfl) ?_; simp only [Act.put, xsa, xsz, xss]) | (simp only [d1, d2, d3, d3n, d4, d5, d7, d7n, xb9, xb0, xb7, xb8, xb6, xb5, xb4, xb2, xb1, xb3]))
      refine yy4 (by rfl) (fun K hK => ?_)
      go_simp
      refine (GN.out _).mono ?_
      rintro e v ⟨rfl, rfl⟩
      refine hK _ _ (Below.refl _ _) ?_
      clear hK K
      repeat (first | (refine yy0 (by rfl) (fun K hK => ?_); go_big_quiet_op; refine hK _ ?_; clear hK K) | (refine yy2 (by rfl) ?_; simp only [Act.put, xsa, xsz, xss]) | (simp only [d1, d2, d3, d3n, d4, d5, d7, d7n, xb9, xb0, xb7, xb8, xb6, xb5, xb4, xb2, xb1, xb3]))
      refine yy4 (by rfl) (fun K hK => ?_)
      go_simp
      refine (GC.out _ HAD.out).mono ?_
      rintro e v ⟨rfl, rfl⟩
      refine hK _ _ (Below.refl _ _) ?_
      clear hK K
      repeat (first | (refine yy0 (by rfl) (fun K hK => ?_); go_big_quiet_op; refine hK _ ?_; clear hK K) | (refine yy2 (by rfl) ?_; simp only [Act.put, xsa, xsz, xss]) | (simp only [d1, d2, d3, d3n, d4, d5, d7, d7n, xb9, xb0, xb7, xb8, xb6, xb5, xb4, xb2, xb1, xb3]))
      refine yy4 (by rfl) (fun K hK => ?_)
      go_simp
      refine (GV.out _).mono ?_
      rintro e v ⟨rfl, hb⟩
      have HBV : Hid (Below wn.heap.size wn v) := xh ((Below.drew (Below.refl _ wn)).trans (hb.mono (by simp)))
      refine hK _ _ hb ?_
      clear hK K hb
      repeat (first | (refine yy0 (by rfl) (fun K hK => ?_); go_big_quiet_op; refine hK _ ?_; clear hK K) | (refine yy2 (by rfl) ?_; simp only [Act.put, xsa, xsz, xss]) | (simp only [d1, d2, d3, d3n, d4, d5, d7, d7n, xb9, xb0, xb7, xb8, xb6, xb5, xb4, xb2, xb1, xb3]))
      refine yy13 ?_
      go_wp2_with fail
      go_meet
      case rel => exact ⟨HBV.out, by rw [← HBD.out, HF.out]⟩
     | true =>
      have HF := xh (yy278 (l := l) (k := j + 1) (x := ⟨xi, xp, xn, false, xt⟩) ⟨by show 1 ≤ xi; omega, by show xi ≤ 1099511627776; omega, HPREV.out, i4, HCH.out.trans i5, (fun h => by cases h), by show (xt).length ≤ 8000; omega, i8⟩)
      rw [i8] at GV
      refine wp_region_lit sc11 (by kernel_rfl) (by kernel_rfl) (fun _ _ d _ _ h => by cases d <;> exact h) ?_
      simp only [picked, sc11, xmc, xmn, xgs, xgz, xgd]
      repeat (first | (refine yy0 (by rfl) (fun K hK => ?_); go_big_quiet_op; refine hK _ ?_; clear hK K) | (refine yy2 (by rfl) ?_; simp only [Act.put, xsa, xsz, xss]) | (simp only [d1, d2, d3, d3n, d4, d5, d7, d7n, xb9, xb0, xb7, xb8, xb6, xb5, xb4, xb2, xb1, xb3]))
      refine yy4 (by rfl) (fun K hK => ?_)
      go_simp
      refine (GN.out _).mono ?_
      rintro e v ⟨rfl, rfl⟩
      refine hK _ _ (Below.refl _ _) ?_
      clear hK K
      repeat (first | (refine yy0 (by rfl) (fun K hK => ?_); go_big_quiet_op; refine hK _ ?_; clear hK K) | (refine yy2 (by rfl) ?_; simp only [Act.put, xsa, xsz, xss]) | (simp only [d1, d2, d3, d3n, d4, d5, d7, d7n, xb9, xb0, xb7, xb8, xb6, xb5, xb4, xb2, xb1, xb3]))
      refine yy4 (by rfl) (fun K hK => ?_)
      go_simp
      refine (GC.out _ HAD.out).mono ?_
      rintro e v ⟨rfl, rfl⟩
      refine hK _ _ (Below.refl _ _) ?_
      clear hK K
      repeat (first | (refine yy0 (by rfl) (fun K hK => ?_); go_big_quiet_op; refine hK _ ?_; clear hK K) | (refine yy2 (by rfl) ?_; simp only [Act.put, xsa, xsz, xss]) | (simp only [d1, d2, d3, d3n, d4, d5, d7, d7n, xb9, xb0, xb7, xb8, xb6, xb5, xb4, xb2, xb1, xb3]))
      refine yy4 (by rfl) (fun K hK => ?_)
      go_simp
      refine (GV.out _).mono ?_
      rintro e v ⟨rfl, hb⟩
      have HBV : Hid (Below wn.heap.size wn v) := xh ((Below.drew (Below.refl _ wn)).trans (hb.mono (by simp)))
      refine hK _ _ hb ?_
      clear hK K hb
      repeat (first | (refine yy0 (by rfl) (fun K hK => ?_); go_big_quiet_op; refine hK _ ?_; clear hK K) | (refine yy2 (by rfl) ?_; simp only [Act.put, xsa, xsz, xss]) | (simp only [d1, d2, d3, d3n, d4, d5, d7, d7n, xb9, xb0, xb7, xb8, xb6, xb5, xb4, xb2, xb1, xb3]))
      refine yy13 ?_
      go_wp2_with fail
      go_meet
      case rel => exact ⟨HBV.out, by rw [← HBD.out, HF.out]⟩
    | true =>
     by_cases i6 : xt = []
     ·subst i6
      have d6 := yy152
      by_cases i7 : 8000 < (([] : List Nat)).length
      ·exact absurd i7 (by simp)
      have d7 : decide ((8000 : Int) < ((([] : List Nat)).length : Int)) = false := decide_eq_false (by omega)
      have d7n : decide (8000 < (([] : List Nat)).length) = false := decide_eq_false (by omega)
      cases i8 : validB ([] : List Nat) with
      | false =>
       have HF := xh (yy46 (l := l) (k := j + 1) (x := ⟨xi, xp, xn, true, ([] : List Nat)⟩) (fun h => by have := h.2.2.2.2.2.2.2; simp only at this; rw [i8] at this; cases this))
       rw [i8] at GV
       refine wp_region_lit sc11 (by kernel_rfl) (by kernel_rfl) (fun _ _ d _ _ h => by cases d <;> exact h) ?_
       simp only [picked, sc11, xmc, xmn, xgs, xgz, xgd]
       repeat (first | (refine yy0 (by rfl) (fun K hK => ?_); go_big_quiet_op; refine hK _ ?_; clear hK K) | (refine yy2 (by rfl) ?_; simp only [Act.put, xsa, xsz, xss]) | (simp only [d1, d2, d3, d3n, d4, d5, d6, d7, d7n, xb9, xb0, xb7, xb8, xb6, xb5, xb4, xb2, xb1, xb3]))
       refine yy4 (by rfl) (fun K hK => ?_)
       go_simp
       refine (GN.out _).mono ?_
       rintro e v ⟨rfl, rfl⟩
       refine hK _ _ (Below.refl _ _) ?_
       clear hK K
       repeat (first | (refine yy0 (by rfl) (fun K hK => ?_); go_big_quiet_op; refine hK _ ?_; clear hK K) | (refine yy2 (by rfl) ?_; simp only [Act.put, xsa, xsz, xss]) | (simp only [d1, d2, d3, d3n, d4, d5, d6, d7, d7n, xb9, xb0, xb7, xb8, xb6, xb5, xb4, xb2, xb1, xb3]))
       refine yy4 (by rfl) (fun K hK => ?_)
       go_simp
       refine (GC.out _ HAD.out).mono ?_
       rintro e v ⟨rfl, rfl⟩
       refine hK _ _ (Below.refl _ _) ?_
       clear hK K
       repeat (first | (refine yy0 (by rfl) (fun K hK => ?_); go_big_quiet_op; refine hK _ ?_; clear hK K) | (refine yy2 (by rfl) ?_; simp only [Act.put, xsa, xsz, xss]) | (simp only [d1, d2, d3, d3n, d4, d5, d6, d7, d7n, xb9, xb0, xb7, xb8, xb6, xb5, xb4, xb2, xb1, xb3]))
       refine yy4 (by rfl) (fun K hK => ?_)
       go_simp
       refine (GV.out _).mono ?_
       rintro e v ⟨rfl, hb⟩
       have HBV : Hid (Below wn.heap.size wn v) := xh ((Below.drew (Below.refl _ wn)).trans (hb.mono (by simp)))
       refine hK _ _ hb ?_
       clear hK K hb
       repeat (first | (refine yy0 (by rfl) (fun K hK => ?_); go_big_quiet_op; refine hK _ ?_; clear hK K) | (refine yy2 (by rfl) ?_; simp only [Act.put, xsa, xsz, xss]) | (simp only [d1, d2, d3, d3n, d4, d5, d6, d7, d7n, xb9, xb0, xb7, xb8, xb6, xb5, xb4, xb2, xb1, xb3]))
       refine yy13 ?_
       go_wp2_with fail
       go_meet
       case rel => exact ⟨HBV.out, by rw [← HBD.out, HF.out]⟩
      | true =>
       have HF := xh (yy278 (l := l) (k := j + 1) (x := ⟨xi, xp, xn, true, ([] : List Nat)⟩) ⟨by show 1 ≤ xi; omega, by show xi ≤ 1099511627776; omega, HPREV.out, i4, HCH.out.trans i5, (fun _ => rfl), by show (([] : List Nat)).length ≤ 8000; omega, i8⟩)
       rw [i8] at GV
       refine wp_region_lit sc11 (by kernel_rfl) (by kernel_rfl) (fun _ _ d _ _ h => by cases d <;> exact h) ?_
       simp only [picked, sc11, xmc, xmn, xgs, xgz, xgd]
       repeat (first | (refine yy0 (by rfl) (fun K hK => ?_); go_big_quiet_op; refine hK _ ?_; clear hK K) | (refine yy2 (by rfl) ?_; simp only [Act.put, xsa, xsz, xss]) | (simp only [d1, d2, d3, d3n, d4, d5, d6, d7, d7n, xb9, xb0, xb7, xb8, xb6, xb5, xb4, xb2, xb1, xb3]))
       refine yy4 (by rfl) (fun K hK => ?_)
       go_simp
       refine (GN.out _).mono ?_
       rintro e v ⟨rfl, rfl⟩
       refine hK _ _ (Below.refl _ _) ?_
       clear hK K
       repeat (first | (refine yy0 (by rfl) (fun K hK => ?_); go_big_quiet_op; refine hK _ ?_; clear hK K) | (refine yy2 (by rfl) ?_; simp only [Act.put, xsa, xsz, xss]) | (simp only [d1, d2, d3, d3n, d4, d5, d6, d7, d7n, xb9, xb0, xb7, xb8, xb6, xb5, xb4, xb2, xb1, xb3]))
       refine yy4 (by rfl) (fun K hK => ?_)
       go_simp
       refine (GC.out _ HAD.out).mono ?_
       rintro e v ⟨rfl, rfl⟩
       refine hK _ _ (Below.refl _ _) ?_
       clear hK K
       repeat (first | (refine yy0 (by rfl) (fun K hK => ?_); go_big_quiet_op; refine hK _ ?_; clear hK K) | (refine yy2 (by rfl) ?_; simp only [Act.put, xsa, xsz, xss]) | (simp only [d1, d2, d3, d3n, d4, d5, d6, d7, d7n, xb9, xb0, xb7, xb8, xb6, xb5, xb4, xb2, xb1, xb3]))
       refine yy4 (by rfl) (fun K hK => ?_)
       go_simp
       refine (GV.out _).mono ?_
       rintro e v ⟨rfl, hb⟩
       have HBV : Hid (Below wn.heap.size wn v) := xh ((Below.drew (Below.refl _ wn)).trans (hb.mono (by simp)))
       refine hK _ _ hb ?_
       clear hK K hb
       repeat (first | (refine yy0 (by rfl) (fun K hK => ?_); go_big_quiet_op; refine hK _ ?_; clear hK K) | (refine yy2 (by rfl) ?_; simp only [Act.put, xsa, xsz, xss]) | (simp only [d1, d2, d3, d3n, d4, d5, d6, d7, d7n, xb9, xb0, xb7, xb8, xb6, xb5, xb4, xb2, xb1, xb3]))
       refine yy13 ?_
       go_wp2_with fail
       go_meet
       case rel => exact ⟨HBV.out, by rw [← HBD.out, HF.out]⟩
     have d6 := yy169 i6
     have HF := xh (yy46 (l := l) (k := j + 1) (x := ⟨xi, xp, xn, true, xt⟩) (fun h => i6 (h.2.2.2.2.2.1 rfl)))
     refine wp_region_lit sc11 (by kernel_rfl) (by kernel_rfl) (fun _ _ d _ _ h => by cases d <;> exact h) ?_
     simp only [picked, sc11, xmc, xmn, xgs, xgz, xgd]
     repeat (first | (refine yy0 (by rfl) (fun K hK => ?_); go_big_quiet_op; refine hK _ ?_; clear hK K) | (refine yy2 (by rfl) ?_; simp only [Act.put, xsa, xsz, xss]) | (simp only [d1, d2, d3, d3n, d4, d5, d6, xb9, xb0, xb7, xb8, xb6, xb5, xb4, xb2, xb1, xb3]))
     refine yy4 (by rfl) (fun K hK => ?_)
     go_simp
     refine (GN.out _).mono ?_
     rintro e v ⟨rfl, rfl⟩
     refine hK _ _ (Below.refl _ _) ?_
     clear hK K
     repeat (first | (refine yy0 (by rfl) (fun K hK => ?_); go_big_quiet_op; refine hK _ ?_; clear hK K) | (refine yy2 (by rfl) ?_; simp only [Act.put, xsa, xsz, xss]) | (simp only [d1, d2, d3, d3n, d4, d5, d6, xb9, xb0, xb7, xb8, xb6, xb5, xb4, xb2, xb1, xb3]))
     refine yy4 (by rfl) (fun K hK => ?_)
     go_simp
     refine (GC.out _ HAD.out).mono ?_
     rintro e v ⟨rfl, rfl⟩
     refine hK _ _ (Below.refl _ _) ?_
     clear hK K
     repeat (first | (refine yy0 (by rfl) (fun K hK => ?_); go_big_quiet_op; refine hK _ ?_; clear hK K) | (refine yy2 (by rfl) ?_; simp only [Act.put, xsa, xsz, xss]) | (simp only [d1, d2, d3, d3n, d4, d5, d6, xb9, xb0, xb7, xb8, xb6, xb5, xb4, xb2, xb1, xb3]))
     refine yy13 ?_
     go_wp2_with fail
     go_meet
     case rel => exact ⟨Below.drew (Below.refl _ wn), by rw [← HBD.out, HF.out]⟩
   case rest =>
    obtain ⟨hbw, rfl⟩ := hcut
    have y0 := (hbw.cell (p := ⟨wr.heap.size, 0, none⟩) hsn).trans (HNC.out 0 _ rfl)
    have y1 := (hbw.cell (p := ⟨wr.heap.size, 1, none⟩) hsn).trans (HNC.out 1 _ rfl)
    have y4 := (hbw.cell (p := ⟨wr.heap.size, 4, none⟩) hsn).trans (HNC.out 4 _ rfl)
    have HBC : Hid (Below w.heap.size w wc) := xh (HBN.out.trans (hbw.mono HBN.out.size))
    have HAC := xh (HA.out.below HBC.out)
    clear hbw HNC HBN HAN HWN hsn z0 z1 z2 z3 z4
    have HTOT := xh HN.out.1
    cases bd with
    | true =>
     have HF := xh (HBADK.out (fun h => by have := HBD.out; rw [yy278 h.1] at this; cases this))
     go_wp2
     go_ret
     exact ⟨by rw [HF.out]; rfl, HBC.out⟩
    | false =>
     have HHEAD : Hid (HeadOk l k ⟨xi, xp, xn, xd, xt⟩) := by
      show HeadOk _ _ _
      by_cases h : HeadOk l k ⟨xi, xp, xn, xd, xt⟩
      ·exact h
      ·have := HBD.out
       rw [yy46 h] at this
       cases this
     have GCN := xh (fun v => yy172 xt HGQ.out.2.2.2.1 (by omega) v)
     have hcn := cps_le xt
     have HCN0 : Hid (¬ (cps xt).length ≤ 2000 → T = false) := xh (fun h => HBADK.out fun g => h g.2.1)
     have HTB0 : Hid (¬ rTotal (l.take (k + 1)) ≤ 10000 → T = false) := xh (fun h => HBADK.out fun g => h g.2.2.1)
     have HOK : Hid ((cps xt).length ≤ 2000 → rTotal (l.take (k + 1)) ≤ 10000 → UpOk l ⟨xi, xp, xn, xd, xt⟩ → ∀ (j : Nat) (hj : j < l.length), j < k + 1 → NodeOk l j l[j]) := xh (fun h1 h2 h3 => HNN.out ⟨HHEAD.out, h1, h2, h3⟩)
     have HUP : Hid (¬ UpOk l ⟨xi, xp, xn, xd, xt⟩ → T = false) := xh (fun h => HBADK.out fun g => h g.2.2.2)
     generalize (cps xt).length = cn at GCN hcn HCN0 HOK HTK
     have htot := HTOT.out
     generalize hrk : rTotal (l.take k) = tot at htot HTK ⊢
     rw [HTK.out] at HTB0 HOK
     clear HHEAD HNN HBD hrk HTOT
     go_wp2_with fail
     refine (GCN.out _).mono ?_
     rintro e v ⟨rfl, hb⟩
     have HBV : Hid (Below w.heap.size w v) := xh (HBC.out.trans (hb.mono HBC.out.size))
     replace y0 := (hb.cell (World.block_lt_of_cell? _ _ y0)).trans y0
     replace y1 := (hb.cell (World.block_lt_of_cell? _ _ y1)).trans y1
     have HAV := xh (HAC.out.below hb)
     clear hb y4 HBC HAC
     by_cases c1 : 2000 < cn
     ·have HF := xh (HCN0.out (by omega))
      have c1i : (2000 : Int) < (cn : Int) := by omega
      clear c1
      go_wp2
      go_ret
      exact ⟨by rw [HF.out]; rfl, HBV.out⟩
     have c1i : ¬ (2000 : Int) < (cn : Int) := by omega
     by_cases c2 : 10000 < tot + cn
     ·have HF := xh (HTB0.out (by omega))
      have c2i : (10000 : Int) < (tot : Int) + (cn : Int) := by omega
      clear c1 c2
      go_wp2
      go_ret
      exact ⟨by rw [HF.out]; rfl, HBV.out⟩
     have c2i : ¬ (10000 : Int) < (tot : Int) + (cn : Int) := by omega
     have HOK2 := xh (HOK.out (by omega) (by omega))
     clear c1 c2 HOK
     by_cases p0 : xp = 0
     ·have HR := xh (HOK2.out (.inl p0))
      have q0 : (xp != 0) = false := by rw [p0]; rfl
      have HTK2 : Hid (rTotal (l.take (k + 1)) = tot + cn ∧ tot + cn ≤ 10000) := xh ⟨HTK.out, by omega⟩
      clear p0
      go_wp2
      go_roundw
      case rel => exact ⟨k + 1, by omega, rfl, by rw [HTK2.out.1]; go_num, by go_num, HBV.out, xh ⟨by rw [HTK2.out.1]; exact HTK2.out.2, HR.out⟩⟩
      case measure => simp [intOf]; omega
     have q0 : (xp != 0) = true := by simpa using p0
     have GF := xh (yy48 (some ⟨b, off, none⟩) c l xp (by unfold maxLen; omega) v HAV.out)
     have GW := xh (yy226 (some ⟨b, off, none⟩) c l xp xi (by omega) v HAV.out)
     cases hf : rFind l xp with
     | none =>
      have HF := xh (HUP.out (fun h => by
       rcases h with h | ⟨q, _, h, _⟩
       ·exact p0 h
       ·have h' : rFind l xp = some q := h
        rw [hf] at h'
        cases h'))
      rw [hf, show findI none = -1 from rfl] at GF
      clear p0 hf
      go_wp2_with fail
      refine (GF.out).mono ?_
      rintro e v' ⟨rfl, rfl⟩
      go_wp2
      go_ret
      exact ⟨by rw [HF.out]; rfl, HBV.out⟩
     | some q =>
      obtain ⟨hq, _, _⟩ := yy21 hf
      rw [hf, show findI (some q) = (q : Int) from rfl] at GF
      have hqi : (q : Int) < (l.length : Int) := by omega
      have hq0 : ¬ (q : Int) < 0 := by omega
      have hc3 := (HAV.out.at_ hq).2.2.2.1
      cases hd : l[q].dir with
      | false =>
       have HF := xh (HUP.out (fun h => by
        rcases h with h | ⟨q', hq', h, h2, _⟩
        ·exact p0 h
        ·have h' : rFind l xp = some q' := h
         rw [hf] at h'
         injection h' with h'
         subst h'
         rw [hd] at h2
         cases h2))
       rw [hd] at hc3
       clear p0 hf hd
       go_wp2_with fail
       refine (GF.out).mono ?_
       rintro e v' ⟨rfl, rfl⟩
       go_wp2
       go_ret
       exact ⟨by rw [HF.out]; rfl, HBV.out⟩
      | true =>
       rw [hd] at hc3
       cases hw : yy80 l xp xi with
       | true =>
        have HF := xh (HUP.out (fun h => by
         rcases h with h | ⟨q', hq', h, _, h2⟩
         ·exact p0 h
         ·have h' : yy80 l xp xi = false := h2
          rw [hw] at h'
          cases h'))
        rw [hw] at GW
        clear p0 hf hd hw
        go_wp2_with fail
        refine (GF.out).mono ?_
        rintro e v' ⟨rfl, rfl⟩
        go_wp2_with fail
        refine (GW.out).mono ?_
        rintro e v' ⟨rfl, rfl⟩
        go_wp2
        go_ret
        exact ⟨by rw [HF.out]; rfl, HBV.out⟩
       | false =>
        have HR := xh (HOK2.out (.inr ⟨q, hq, hf, hd, hw⟩))
        have HTK2 : Hid (rTotal (l.take (k + 1)) = tot + cn ∧ tot + cn ≤ 10000) := xh ⟨HTK.out, by omega⟩
        rw [hw] at GW
        clear p0 hf hd hw
        go_wp2_with fail
        refine (GF.out).mono ?_
        rintro e v' ⟨rfl, rfl⟩
        go_wp2_with fail
        refine (GW.out).mono ?_
        rintro e v' ⟨rfl, rfl⟩
        go_wp2
        go_roundw
        case rel => exact ⟨k + 1, by omega, rfl, by rw [HTK2.out.1]; go_num, by go_num, HBV.out, xh ⟨by rw [HTK2.out.1]; exact HTK2.out.2, HR.out⟩⟩
        case measure => simp [intOf]; omega
  ·have HF : Hid (T = true) := xh (by rw [← HTT.out]; exact yy389 ⟨by omega, fun j hj => HN.out.2 j hj (by omega)⟩)
   have hkn : ¬ (k : Int) < (l.length : Int) := by omega
   go_wp2
   go_ret
   exact ⟨by rw [HF.out]; rfl, HBEL.out⟩
end Go.Proofs.YtjpjdkdbgjipnaaDoor
