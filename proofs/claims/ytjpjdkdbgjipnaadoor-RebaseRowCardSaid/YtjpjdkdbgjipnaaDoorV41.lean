/- The document's own Do, over nodes: an edit of a node that is there, with where the outcome lies. Conditions: as RefNDo's; texts of no more than 2^30 bytes. -/
import Derived.Test.YtjpjdkdbgjipnaaDoorV14
import Derived.Test.YtjpjdkdbgjipnaaDoorV40
namespace Go.Proofs.YtjpjdkdbgjipnaaDoor
open Go.RowKit Go.Deep
def NDoO (w w' : World) (R : List NodeV × Int) (e : Ending) : Prop := ∃ A' c', e = .returned (.tuple #[.slice A' R.1.length c', .int .i64 R.2]) ∧ NodesC w' A' c' R.1 ∧ (R.2 = 0 → OwnN w' w.heap.size A' c' R.1)
set_option maxHeartbeats 2000000 in
set_option maxRecDepth 100000 in
theorem yy361 (A : Option Addr) (c : Nat) (l : List NodeV) (a : ActV) (hl : l.length ≤ 1048576) (hg : ∀ y ∈ l, y.Good) (ht : ∀ y ∈ l, y.text.length ≤ 1073741824) (hk : a.kind = 4) {q : Nat} (hf : rFind l a.id = some q) (hq : q < l.length) (hol : a.ops.length ≤ maxLen) (hof : Fine1 a.ops) (hot : tlen a.ops ≤ 1073741824) (w : World) (hop : yy6 w a.opsA a.ops) (hC : NodesC w A c l) :
  Calls Tryd.prog 33 #[.slice A l.length c, .agg (yy0 a).toArray] w fun e w' => NDoO w w' (rDo l a) e ∧ Below w.heap.size w w' := by
 have HC := xh hC
 clear hC
 obtain ⟨w1, HW1⟩ : ∃ x', Hid (w.alloc (.cells (yy0 a).toArray 46) = x') := ⟨_, xh rfl⟩
 have hs1 : w1.heap.size = w.heap.size + 1 := by rw [← HW1.out]; simp
 have HB1 : Hid (Below w.heap.size w w1) := by
  show Below _ _ _
  rw [← HW1.out]
  exact (Below.refl _ _).alloc (Nat.le_refl _) _
 have HX : Hid (∀ (f : Nat) (v : Value), (yy0 a)[f]? = some v → w1.cell? ⟨w.heap.size, f, none⟩ = some v) := by
  intro f v hf
  rw [← HW1.out, cell_of_row _ _ _ _ _ _ (heap_alloc_new w _)]
  simpa using hf
 have HA := xh (HC.out.1.below HB1.out)
 have GF := xh (yy223 A c l a.id (by unfold maxLen; omega) w1 HA.out)
 obtain ⟨kk, ii, pp, nn, dd, oA, oC, oo⟩ := a
 simp only [yy0] at *
 have x0 := HX.out 0 _ rfl
 have x1 := HX.out 1 _ rfl
 have x2 := HX.out 2 _ rfl
 have x3 := HX.out 3 _ rfl
 have x4 := HX.out 4 _ rfl
 have x5 := HX.out 5 _ rfl
 obtain rfl : kk = 4 := hk
 rw [rDo_e rfl hq hf]
 rw [hf, show findI (some q) = (q : Int) from rfl] at GF
 have hqi : (q : Int) < (l.length : Int) := by omega
 have hq0 : ¬ (q : Int) < 0 := by omega
 clear hf
 obtain ⟨b, off, rfl, _⟩ := HA.out.form (by omega)
 obtain ⟨z0, z1, z2, z3, z4⟩ := HA.out.at_ hq
 have hgq := hg l[q] (List.getElem_mem hq)
 have htq := ht l[q] (List.getElem_mem hq)
 have HG := xh hg
 have HT := xh ht
 clear hg ht
 generalize l[q] = y at z0 z1 z2 z3 z4 hgq htq ⊢
 obtain ⟨yi, yp, yn, yd, yt⟩ := y
 simp only at z0 z1 z2 z3 z4 hgq htq ⊢
 cases yd with
 | true =>
  rw [if_pos rfl]
  go_enter Tryd.func33, Tryd.ntmps33
  go_wp2_with fail
  try rw [HW1.out]
  refine (GF.out).mono ?_
  rintro e v ⟨rfl, rfl⟩
  go_wp2
  try rw [HW1.out]
  go_ret2
  exact ⟨⟨_, _, rfl, HC.out.below HB1.out, fun h => absurd h (by show ¬ (8 : Int) = 0; decide)⟩, HB1.out⟩
 | false =>
  rw [if_neg (by simp)]
  have GD := xh (fun v h => yy567 yt oA oC oo hgq.2.2.2.1 htq hol hof hot v h)
  have HOP := xh (hop.below HB1.out)
  have hsm := yy283 yt oo
  obtain ⟨s, HS⟩ : ∃ s, Hid (dTxt yt oo = s) := ⟨_, xh rfl⟩
  rw [HS.out] at hsm ⊢
  by_cases hE : dErr yt oo = 0
  rotate_left
  ·rw [if_pos hE]
   obtain ⟨E, HE0⟩ : ∃ E, Hid (dErr yt oo = E) := ⟨_, xh rfl⟩
   rw [HE0.out] at hE ⊢
   have hE2 : (((E : Nat) : Int) != 0) = true := by
    have : ¬ ((E : Nat) : Int) = 0 := by omega
    simpa using this
   have HEN := xh hE
   clear hsm hE
   go_enter Tryd.func33, Tryd.ntmps33
   go_wp2_with fail
   try rw [HW1.out]
   refine (GF.out).mono ?_
   rintro e v ⟨rfl, rfl⟩
   go_wp2
   refine wp_region_lit sc5 (by kernel_rfl) (by kernel_rfl) (fun _ _ d _ _ h => by cases d <;> exact h) ?_
   simp only [picked, sc5, xmc, xmn, xgs, xgz, xgd]
   have e4 := fun e : Ext w1.drew => Ext.cell (w := w1.drew) z4 e
   have e5 := fun e : Ext w1.drew => Ext.cell (w := w1.drew) x5 e
   repeat (first | (refine yy3 (by rfl) (fun K hK => ?_); go_big_quiet_op; refine hK _ ?_; clear hK K) | (refine yy5 (by rfl) ?_; simp only [Act.put, xsa, xsz, xss]))
   refine yy16 (by rfl) (fun K hK => ?_)
   go_simp
   refine (GD.out _ HOP.out.drew).mono ?_
   rintro e v ⟨he, hb⟩
   obtain rfl := he.eq
   have HB2 : Hid (Below w1.heap.size w1 v) := (Below.drew (Below.refl _ w1)).trans (hb.mono (by simp))
   refine hK _ _ hb ?_
   clear hK K hb e4 e5
   repeat (first | (refine yy3 (by rfl) (fun K hK => ?_); go_big_quiet_op; refine hK _ ?_; clear hK K) | (refine yy5 (by rfl) ?_; simp only [Act.put, xsa, xsz, xss]))
   refine yy39 ?_
   rw [HS.out, HE0.out]
   go_wp2
   go_ret2
   exact ⟨⟨_, _, rfl, HC.out.below (HB1.out.trans (HB2.out.mono (by omega))), fun h => absurd h (by have := HEN.out; show ¬ ((E : Nat) : Int) = 0; omega)⟩, HB1.out.trans (HB2.out.mono (by omega))⟩
  rw [if_neg (fun h => h hE)]
  have HE0 := xh hE
  clear hE
  have GW := xh (fun v h => yy418 (some ⟨b, off, none⟩) c l hq ⟨yi, yp, yn, false, s⟩ hl v h)
  have GT := xh (fun A' c' v h => yy325 A' c' (l.set q ⟨yi, yp, yn, false, s⟩) (by rw [List.length_set]; omega) (fun y hy => by
   rcases List.mem_or_eq_of_mem_set hy with h | rfl
   ·exact HG.out y h
   ·exact ⟨hgq.1, hgq.2.1, hgq.2.2.1, hsm.1, by unfold maxLen; show s.length ≤ _; omega⟩) (fun y hy => by
   rcases List.mem_or_eq_of_mem_set hy with h | rfl
   ·have := HT.out y h; omega
   ·show s.length ≤ _; omega) v h)
  rw [List.length_set] at GT
  simp only [yy14] at GW
  clear hsm hgq htq
  generalize rTotal (l.set q ⟨yi, yp, yn, false, s⟩) = tot at GT ⊢
  by_cases ht : 10000 < tot
  ·rw [if_pos ht]
   have ht2 : (10000 : Int) < ((tot : Nat) : Int) := by omega
   clear ht
   go_enter Tryd.func33, Tryd.ntmps33
   go_wp2_with fail
   try rw [HW1.out]
   refine (GF.out).mono ?_
   rintro e v ⟨rfl, rfl⟩
   go_wp2
   refine wp_region_lit sc5 (by kernel_rfl) (by kernel_rfl) (fun _ _ d _ _ h => by cases d <;> exact h) ?_
   simp only [picked, sc5, xmc, xmn, xgs, xgz, xgd]
   have e4 := fun e : Ext w1.drew => Ext.cell (w := w1.drew) z4 e
   have e5 := fun e : Ext w1.drew => Ext.cell (w := w1.drew) x5 e
   repeat (first | (refine yy3 (by rfl) (fun K hK => ?_); go_big_quiet_op; refine hK _ ?_; clear hK K) | (refine yy5 (by rfl) ?_; simp only [Act.put, xsa, xsz, xss]))
   refine yy16 (by rfl) (fun K hK => ?_)
   go_simp
   refine (GD.out _ HOP.out.drew).mono ?_
   rintro e v ⟨he, hb⟩
   obtain rfl := he.eq
   have HB2 : Hid (Below w1.heap.size w1 v) := (Below.drew (Below.refl _ w1)).trans (hb.mono (by simp))
   refine hK _ _ hb ?_
   clear hK K hb e4 e5
   repeat (first | (refine yy3 (by rfl) (fun K hK => ?_); go_big_quiet_op; refine hK _ ?_; clear hK K) | (refine yy5 (by rfl) ?_; simp only [Act.put, xsa, xsz, xss]))
   refine yy39 ?_
   have v0 := (HB2.out.cell (World.block_lt_of_cell? _ _ z0)).trans z0
   have v1 := (HB2.out.cell (World.block_lt_of_cell? _ _ z1)).trans z1
   have v2 := (HB2.out.cell (World.block_lt_of_cell? _ _ z2)).trans z2
   have v3 := (HB2.out.cell (World.block_lt_of_cell? _ _ z3)).trans z3
   have v4 := (HB2.out.cell (World.block_lt_of_cell? _ _ z4)).trans z4
   clear z0 z1 z2 z3 z4 x0 x1 x2 x3 x4 x5
   rw [HS.out, HE0.out]
   go_wp2_with fail
   refine (GW.out _ ((HA.out.below HB2.out).below ((Below.refl _ _).alloc (Nat.le_refl _) _))).mono ?_
   rintro e v2 ⟨⟨A', c', rfl, hown⟩, hb⟩
   have HO := xh hown
   have HB3 : Hid (Below v.heap.size v v2) := ((Below.refl _ _).alloc (Nat.le_refl _) _).trans (hb.mono (by simp))
   clear hown hb
   go_wp2_with fail
   refine (GT.out A' c' _ HO.out.nodes.1).mono ?_
   rintro e v3 ⟨rfl, hb⟩
   have HB4 := xh hb
   clear hb
   go_wp2
   go_ret2
   exact ⟨⟨_, _, rfl, HC.out.below (HB1.out.trans ((HB2.out.mono (by omega)).trans ((HB3.out.mono (by have := HB2.out.size; omega)).trans (HB4.out.mono (by have := HB2.out.size; have := HB3.out.size; omega))))), fun h => absurd h (by show ¬ (4 : Int) = 0; decide)⟩, HB1.out.trans ((HB2.out.mono (by omega)).trans ((HB3.out.mono (by have := HB2.out.size; omega)).trans (HB4.out.mono (by have := HB2.out.size; have := HB3.out.size; omega))))⟩
  ·rw [if_neg ht]
   have ht2 : ¬ (10000 : Int) < ((tot : Nat) : Int) := by omega
   clear ht
   go_enter Tryd.func33, Tryd.ntmps33
   go_wp2_with fail
   try rw [HW1.out]
   refine (GF.out).mono ?_
   rintro e v ⟨rfl, rfl⟩
   go_wp2
   refine wp_region_lit sc5 (by kernel_rfl) (by kernel_rfl) (fun _ _ d _ _ h => by cases d <;> exact h) ?_
   simp only [picked, sc5, xmc, xmn, xgs, xgz, xgd]
   have e4 := fun e : Ext w1.drew => Ext.cell (w := w1.drew) z4 e
   have e5 := fun e : Ext w1.drew => Ext.cell (w := w1.drew) x5 e
   repeat (first | (refine yy3 (by rfl) (fun K hK => ?_); go_big_quiet_op; refine hK _ ?_; clear hK K) | (refine yy5 (by rfl) ?_; simp only [Act.put, xsa, xsz, xss]))
   refine yy16 (by rfl) (fun K hK => ?_)
   go_simp
   refine (GD.out _ HOP.out.drew).mono ?_
   rintro e v ⟨he, hb⟩
   obtain rfl := he.eq
   have HB2 : Hid (Below w1.heap.size w1 v) := (Below.drew (Below.refl _ w1)).trans (hb.mono (by simp))
   refine hK _ _ hb ?_
   clear hK K hb e4 e5
   repeat (first | (refine yy3 (by rfl) (fun K hK => ?_); go_big_quiet_op; refine hK _ ?_; clear hK K) | (refine yy5 (by rfl) ?_; simp only [Act.put, xsa, xsz, xss]))
   refine yy39 ?_
   have v0 := (HB2.out.cell (World.block_lt_of_cell? _ _ z0)).trans z0
   have v1 := (HB2.out.cell (World.block_lt_of_cell? _ _ z1)).trans z1
   have v2 := (HB2.out.cell (World.block_lt_of_cell? _ _ z2)).trans z2
   have v3 := (HB2.out.cell (World.block_lt_of_cell? _ _ z3)).trans z3
   have v4 := (HB2.out.cell (World.block_lt_of_cell? _ _ z4)).trans z4
   clear z0 z1 z2 z3 z4 x0 x1 x2 x3 x4 x5
   rw [HS.out, HE0.out]
   go_wp2_with fail
   refine (GW.out _ ((HA.out.below HB2.out).below ((Below.refl _ _).alloc (Nat.le_refl _) _))).mono ?_
   rintro e v2 ⟨⟨A', c', rfl, hown⟩, hb⟩
   have HO := xh hown
   have HB3 : Hid (Below v.heap.size v v2) := ((Below.refl _ _).alloc (Nat.le_refl _) _).trans (hb.mono (by simp))
   clear hown hb
   go_wp2_with fail
   refine (GT.out A' c' _ HO.out.nodes.1).mono ?_
   rintro e v3 ⟨rfl, hb⟩
   have HB4 := xh hb
   clear hb
   go_wp2
   go_ret2
   exact ⟨⟨_, _, by simp, HO.out.nodes.below HB4.out, fun _ => yy34 (HO.out.below HB4.out) (by have := HB2.out.size; simp; omega)⟩, HB1.out.trans ((HB2.out.mono (by omega)).trans ((HB3.out.mono (by have := HB2.out.size; omega)).trans (HB4.out.mono (by have := HB2.out.size; have := HB3.out.size; omega))))⟩
end Go.Proofs.YtjpjdkdbgjipnaaDoor
