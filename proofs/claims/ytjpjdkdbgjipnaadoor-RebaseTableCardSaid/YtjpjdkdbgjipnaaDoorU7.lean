/- The document's own SameNodes: two lists of nodes. Condition: no slice is longer than memory. (Merged of 4 texts.) -/
import Derived.Test.YtjpjdkdbgjipnaaDoorU32
import Derived.Test.YtjpjdkdbgjipnaaDoorU36
import Derived.Test.YtjpjdkdbgjipnaaDoorU34
import Derived.BigQuiet
import Derived.BigRegion
namespace Go.Proofs.YtjpjdkdbgjipnaaDoor
open Go.RowKit Go.Deep
set_option maxHeartbeats 2000000 in
set_option maxRecDepth 100000 in
theorem yy530 (A : Option Addr) (c : Nat) (l : List NodeV) (a : ActV) (hl : l.length ≤ 1048576) (hg : ∀ y ∈ l, y.Good) (hnb : ∀ x ∈ a.name, x < 256) (hnl : a.name.length ≤ maxLen) (hk : a.kind = 3) (hn : IsName a.name) {q : Nat} (hf : rFind l a.id = some q) (hq : q < l.length) (hp : rPlace l a.parent a.name a.id = 0) (w : World) (hC : NodesC w A c l) :
  Calls Tryd.prog 33 #[.slice A l.length c, .agg (yy1 a).toArray] w fun e w' => NDo w' (rDo l a) e ∧ Below w.heap.size w w' := by
 have HC := xh hC
 clear hC
 obtain ⟨w1, HW1⟩ : ∃ x', Hid (w.alloc (.cells (yy1 a).toArray 46) = x') := ⟨_, xh rfl⟩
 have hs1 : w1.heap.size = w.heap.size + 1 := by rw [← HW1.out]; simp
 have HB1 : Hid (Below w.heap.size w w1) := by
  show Below _ _ _
  rw [← HW1.out]
  exact (Below.refl _ _).alloc (Nat.le_refl _) _
 have HX : Hid (∀ (f : Nat) (v : Value), (yy1 a)[f]? = some v → w1.cell? ⟨w.heap.size, f, none⟩ = some v) := by
  intro f v hf
  rw [← HW1.out, cell_of_row _ _ _ _ _ _ (heap_alloc_new w _)]
  simpa using hf
 have HA := xh (HC.out.1.below HB1.out)
 have GF := xh (yy48 A c l a.id (by unfold maxLen; omega) w1 HA.out)
 have GN := xh (yy94 a.name hnb hnl w1)
 have GP := xh (yy119 A c l a.parent a.name a.id hl hg hnb w1 HA.out)
 have GW := xh (fun v h => yy315 A c l hq ⟨l[q].id, a.parent, a.name, l[q].dir, l[q].text⟩ hl v h)
 obtain ⟨kk, ii, pp, nn, dd, oA, oC, oo⟩ := a
 simp only [yy1] at *
 have x0 := HX.out 0 _ rfl
 have x1 := HX.out 1 _ rfl
 have x2 := HX.out 2 _ rfl
 have x3 := HX.out 3 _ rfl
 have x4 := HX.out 4 _ rfl
 have x5 := HX.out 5 _ rfl
 obtain rfl : kk = 3 := hk
 rw [rDo_m4 rfl hn hq hf hp]
 rw [yy104 hn] at GN
 rw [hp] at GP
 rw [hf, show findI (some q) = (q : Int) from rfl] at GF
 have hqi : (q : Int) < (l.length : Int) := by omega
 have hq0 : ¬ (q : Int) < 0 := by omega
 clear hn hf hp
 obtain ⟨b, off, rfl, _⟩ := HA.out.form (by omega)
 obtain ⟨z0, z1, z2, z3, z4⟩ := HA.out.at_ hq
 generalize l[q] = y at z0 z1 z2 z3 z4 GW ⊢
 obtain ⟨yi, yp, yn, yd, yt⟩ := y
 simp only at z0 z1 z2 z3 z4 GW ⊢
 go_enter Tryd.func33, Tryd.ntmps33
 go_wp2_with fail
 try rw [HW1.out]
 refine (GF.out).mono ?_
 rintro e v ⟨rfl, rfl⟩
 go_wp2_with fail
 try rw [HW1.out]
 refine (GN.out).mono ?_
 rintro e v ⟨rfl, rfl⟩
 go_wp2_with fail
 try rw [HW1.out]
 refine (GP.out).mono ?_
 rintro e v ⟨rfl, rfl⟩
 go_wp2_with fail
 try rw [HW1.out]
 refine (GW.out _ (HA.out.below ((Below.refl _ _).alloc (Nat.le_refl _) _))).mono ?_
 rintro e v ⟨⟨A', c', rfl, hown⟩, hb⟩
 have HO := xh hown
 have HB2 : Hid (Below w1.heap.size w1 v) := ((Below.refl _ _).alloc (Nat.le_refl _) _).trans (hb.mono (by simp))
 clear hown hb
 go_wp2
 go_ret2
 exact ⟨⟨_, _, by simp, HO.out.nodes⟩, HB1.out.trans (HB2.out.mono (by omega))⟩
def nGone : Sched Nat := (.quiet 1 (.quiet 2 (.quiet 3 (.quiet 5 (.quiet 6 (.quiet 7 (.quiet 8 (.one 0 (.one 4 (.one 9 (.quiet 10 (.quiet 11 .done))))))))))))
set_option maxHeartbeats 2000000 in
set_option maxRecDepth 100000 in
theorem yy386 (A : Option Addr) (c : Nat) (l : List NodeV) (a : ActV) (hl : l.length ≤ 1048576) (hk : a.kind = 2) {q : Nat} (hf : rFind l a.id = some q) (hq : q < l.length) (w : World) (hC : NodesC w A c l) :
  Calls Tryd.prog 33 #[.slice A l.length c, .agg (yy1 a).toArray] w fun e w' => NDo w' (rDo l a) e ∧ Below w.heap.size w w' := by
 have HC := xh hC
 clear hC
 obtain ⟨w1, HW1⟩ : ∃ x', Hid (w.alloc (.cells (yy1 a).toArray 46) = x') := ⟨_, xh rfl⟩
 have hs1 : w1.heap.size = w.heap.size + 1 := by rw [← HW1.out]; simp
 have HB1 : Hid (Below w.heap.size w w1) := by
  show Below _ _ _
  rw [← HW1.out]
  exact (Below.refl _ _).alloc (Nat.le_refl _) _
 have HX : Hid (∀ (f : Nat) (v : Value), (yy1 a)[f]? = some v → w1.cell? ⟨w.heap.size, f, none⟩ = some v) := by
  intro f v hf
  rw [← HW1.out, cell_of_row _ _ _ _ _ _ (heap_alloc_new w _)]
  simpa using hf
 have HA := xh (HC.out.1.below HB1.out)
 have GF := xh (yy48 A c l a.id (by unfold maxLen; omega) w1 HA.out)
 obtain ⟨kk, ii, pp, nn, dd, oA, oC, oo⟩ := a
 simp only [yy1] at *
 have x0 := HX.out 0 _ rfl
 have x1 := HX.out 1 _ rfl
 have x2 := HX.out 2 _ rfl
 have x3 := HX.out 3 _ rfl
 have x4 := HX.out 4 _ rfl
 have x5 := HX.out 5 _ rfl
 obtain rfl : kk = 2 := hk
 rw [hf, show findI (some q) = (q : Int) from rfl] at GF
 have hqi : (q : Int) < (l.length : Int) := by omega
 have hq0 : ¬ (q : Int) < 0 := by omega
 have HF := xh hf
 clear hf
 obtain ⟨b, off, rfl, _⟩ := HA.out.form (by omega)
 obtain ⟨R, HR0⟩ : ∃ R, Hid (rDo l ⟨2, ii, pp, nn, dd, oA, oC, oo⟩ = R) := ⟨_, xh rfl⟩
 rw [HR0.out]
 go_enter Tryd.func33, Tryd.ntmps33
 go_wp2_with fail
 try rw [HW1.out]
 refine (GF.out).mono ?_
 rintro e v ⟨rfl, rfl⟩
 go_wp2
 go_loopw [10] (fun i wr => ∃ k : Nat, k ≤ l.length ∧ i = .int .i64 (k : Int) ∧ Below w1.heap.size w1 wr ∧ Hid (∀ (j : Nat) (hj : j < l.length), j < k → l[j].parent ≠ ii)) (fun i _ => l.length - (intOf i).toNat)
 case atStart => exact ⟨0, Nat.zero_le _, rfl, Below.refl _ _, xh (fun j _ h => by omega)⟩
 case round =>
  obtain ⟨k, hk, rfl, hbel, HN⟩ := hrel
  have HBEL := xh hbel; clear hbel
  by_cases hlt : k < l.length
  ·have z1 := (HBEL.out.cell (World.block_lt_of_cell? _ _ (HA.out.at_ hlt).2.1)).trans (HA.out.at_ hlt).2.1
   have y1 := (HBEL.out.cell (World.block_lt_of_cell? _ _ x1)).trans x1
   have hki : (k : Int) < (l.length : Int) := by omega
   have HE : Hid (l[k].parent = ii → R = (l, 9)) := fun h => HR0.out ▸ rDo_r2 rfl HF.out ⟨_, List.getElem_mem hlt, h⟩
   have HNN : Hid (l[k].parent ≠ ii → ∀ (j : Nat) (hj : j < l.length), j < k + 1 → l[j].parent ≠ ii) := fun h j hj hjk => by
    rcases Nat.lt_or_ge j k with g | g
    ·exact HN.out j hj g
    ·obtain rfl : j = k := by omega
     exact h
   generalize l[k].parent = y at z1 HE HNN
   by_cases he : y = ii
   ·have HR := xh (HE.out he)
    have he2 : (y == ii) = true := by simpa using he
    clear HE HNN he
    go_wp2
    go_quiet (fail)
    go_wp2
    go_ret2
    rw [HR.out]
    exact ⟨⟨_, _, rfl, HC.out.below (HB1.out.trans ((below_drewN HBEL.out _).mono (by omega)))⟩, HB1.out.trans ((below_drewN HBEL.out _).mono (by omega))⟩
   ·have he2 : (y == ii) = false := xn he
    have HR := xh (HNN.out he)
    clear HE HNN he
    go_wp2
    go_quiet (fail)
    go_wp2
    go_roundw
    case rel => exact ⟨k + 1, by omega, by go_num, below_drewN HBEL.out _, HR⟩
    case measure => simp [intOf]; omega
  ·have HR : Hid (R = (l.take q ++ l.drop (q + 1), 0)) := HR0.out ▸ rDo_r3 rfl HF.out (fun ⟨y, hy, e⟩ => by
    obtain ⟨j, hj⟩ := List.getElem?_of_mem hy
    obtain ⟨h1, h2⟩ := List.getElem?_eq_some_iff.1 hj
    rw [← h2] at e
    exact HN.out j h1 (by omega) e)
   have hkn : ¬ (k : Int) < (l.length : Int) := by omega
   have hc := HC.out.2
   have hl1 : (l.take q).length = q := by simp; omega
   have hl2 : (l.drop (q + 1)).length = l.length - (q + 1) := by simp
   have cut1 : ∀ w : World, (Instr.slice 22 (.slice (some ⟨b, off, none⟩) l.length c) none (some (.int .i64 (q : Int))) none).run Tryd.prog w = .ok (.slice (nHigh (some ⟨b, off, none⟩) c) (l.take q).length c) w := fun w => by
    rw [hl1]
    exact yy489 (some ⟨b, off, none⟩) l.length c q (by omega) w
   have cut2 : ∀ w : World, (Instr.slice 22 (.slice (some ⟨b, off, none⟩) l.length c) (some (.int .i64 ((q : Int) + 1))) none none).run Tryd.prog w = .ok (.slice (nLow (some ⟨b, off, none⟩) (q + 1) c) (l.drop (q + 1)).length (c - (q + 1))) w := fun w => by
    rw [hl2]
    exact yy607 (some ⟨b, off, none⟩) l.length c (q + 1) (by omega) w
   have HM1 : Hid (∀ v : World, yy14 v (some ⟨b, off, none⟩) l → yy14 v (nHigh (some ⟨b, off, none⟩) c) (l.take q)) := fun v h => h.high c q
   have HM2 : Hid (∀ v : World, yy14 v (some ⟨b, off, none⟩) l → yy14 v (nLow (some ⟨b, off, none⟩) (q + 1) c) (l.drop (q + 1))) := fun v h => h.low c (q + 1) hc
   have HLEN : Hid ((l.take q).length + (l.drop (q + 1)).length ≤ 1048576) := by show _ ≤ _; rw [hl1, hl2]; omega
   clear hl1 hl2
   generalize l.take q = m1 at HM1 cut1 HR HLEN
   generalize l.drop (q + 1) = m2 at HM2 cut2 HR HLEN
   generalize nHigh (some ⟨b, off, none⟩) c = A1 at HM1 cut1
   generalize nLow (some ⟨b, off, none⟩) (q + 1) c = A2 at HM2 cut2
   clear hc
   go_wp2
   refine Sched.yy694 (some wr.heap.size) nGone (by kernel_rfl) (by kernel_rfl) (fun _ _ d _ _ h => by cases d <;> exact h) ?_
   simp only [nGone, Sched.picked, List.getElem?_cons_succ, List.getElem?_cons_zero, Option.getD_some]
   repeat (first | (refine Sched.yy857 (by rfl) (fun K hK => ?_); go_big_quiet_op; refine hK _ ?_; clear hK K) | (refine Sched.yy671 (by rfl) ?_; simp only [Act.put, xsa, xsz, xss]))
   have HWR := xh ((HA.out.below HBEL.out).drew)
   have HBD := xh HBEL.out.drew
   have hsd : wr.heap.size = wr.drew.heap.size := rfl
   rw [hsd]
   generalize wr.drew = wd at HWR HBD ⊢
   refine Sched.walk_one (by rfl) (fun K hK => ?_)
   go_simp
   have HE := xh (OwnN.empty wd (Nat.le_refl _))
   have HB3 : Hid (Below wd.heap.size wd (wd.alloc (.cells #[] 44))) := xh ((Below.refl _ _).alloc (Nat.le_refl _) _)
   refine hK _ _ HB3.out ?_
   clear hK K
   refine Sched.walk_one (by rfl) (fun K hK => ?_)
   refine yy173 (.tmp 114) (.tmp 117) rfl HE.out (by simp) c (HM1.out _ (HWR.out.below HB3.out)) (by have := HLEN.out; simp; omega) rfl rfl ?_
   intro A3 c3 w3 hown hb
   have HO3 := xh hown
   have HB4 := xh hb
   refine hK _ _ HB4.out ?_
   clear hK K hown hb
   simp only [Act.put, xsa, xsz, xss, List.nil_append]
   refine Sched.walk_one (by rfl) (fun K hK => ?_)
   refine yy173 (.tmp 118) (.tmp 122) rfl HO3.out (by have := HB3.out.size; have := HB4.out.size; omega) (c - (q + 1)) (HM2.out _ (HWR.out.below (HB3.out.trans HB4.out))) (by have := HLEN.out; simp; omega) rfl rfl ?_
   intro A5 c5 w5 hown hb
   have HO5 := xh hown
   have HB5 := xh hb
   refine hK _ _ HB5.out ?_
   clear hK K hown hb
   simp only [Act.put, xsa, xsz, xss]
   repeat (first | (refine Sched.yy857 (by rfl) (fun K hK => ?_); go_big_quiet_op; refine hK _ ?_; clear hK K) | (refine Sched.yy671 (by rfl) ?_; simp only [Act.put, xsa, xsz, xss]))
   refine Sched.walk_done ?_
   go_wp2
   go_ret2
   have hbel : Below w1.heap.size w1 w5 := HBD.out.trans (((HB3.out.trans HB4.out).trans HB5.out).mono HBD.out.size)
   rw [HR.out]
   exact ⟨⟨_, _, rfl, HO5.out.nodes⟩, HB1.out.trans (hbel.mono (by omega))⟩
set_option maxHeartbeats 2000000 in
set_option maxRecDepth 100000 in
theorem yy531 (A : Option Addr) (c : Nat) (l : List NodeV) (a : ActV) (hl : l.length ≤ 1048576) (hg : ∀ y ∈ l, y.Good) (ht : ∀ y ∈ l, y.text.length ≤ 1073741824) (hk : a.kind = 4) {q : Nat} (hf : rFind l a.id = some q) (hq : q < l.length) (hol : a.ops.length ≤ maxLen) (hof : Fine1 a.ops) (hot : tlen a.ops ≤ 1073741824) (w : World) (hop : yy7 w a.opsA a.ops) (hC : NodesC w A c l) :
  Calls Tryd.prog 33 #[.slice A l.length c, .agg (yy1 a).toArray] w fun e w' => NDo w' (rDo l a) e ∧ Below w.heap.size w w' := by
 have HC := xh hC
 clear hC
 obtain ⟨w1, HW1⟩ : ∃ x', Hid (w.alloc (.cells (yy1 a).toArray 46) = x') := ⟨_, xh rfl⟩
 have hs1 : w1.heap.size = w.heap.size + 1 := by rw [← HW1.out]; simp
 have HB1 : Hid (Below w.heap.size w w1) := by
  show Below _ _ _
  rw [← HW1.out]
  exact (Below.refl _ _).alloc (Nat.le_refl _) _
 have HX : Hid (∀ (f : Nat) (v : Value), (yy1 a)[f]? = some v → w1.cell? ⟨w.heap.size, f, none⟩ = some v) := by
  intro f v hf
  rw [← HW1.out, cell_of_row _ _ _ _ _ _ (heap_alloc_new w _)]
  simpa using hf
 have HA := xh (HC.out.1.below HB1.out)
 have GF := xh (yy48 A c l a.id (by unfold maxLen; omega) w1 HA.out)
 obtain ⟨kk, ii, pp, nn, dd, oA, oC, oo⟩ := a
 simp only [yy1] at *
 have x0 := HX.out 0 _ rfl
 have x1 := HX.out 1 _ rfl
 have x2 := HX.out 2 _ rfl
 have x3 := HX.out 3 _ rfl
 have x4 := HX.out 4 _ rfl
 have x5 := HX.out 5 _ rfl
 obtain rfl : kk = 4 := hk
 rw [rDo_e rfl hq hf]
 rw [hf, show findI (some q) = (q : Int) from rfl] at GF
 have hqi : (q : Int) < (l.length : Int) := by omega
 have hq0 : ¬ (q : Int) < 0 := by omega
 clear hf
 obtain ⟨b, off, rfl, _⟩ := HA.out.form (by omega)
 obtain ⟨z0, z1, z2, z3, z4⟩ := HA.out.at_ hq
 have hgq := hg l[q] (List.getElem_mem hq)
 have htq := ht l[q] (List.getElem_mem hq)
 have HG := xh hg
 have HT := xh ht
 clear hg ht
 generalize l[q] = y at z0 z1 z2 z3 z4 hgq htq ⊢
 obtain ⟨yi, yp, yn, yd, yt⟩ := y
 simp only at z0 z1 z2 z3 z4 hgq htq ⊢
 cases yd with
 | true =>
  rw [if_pos rfl]
  go_enter Tryd.func33, Tryd.ntmps33
  go_wp2_with fail
  try rw [HW1.out]
  refine (GF.out).mono ?_
  rintro e v ⟨rfl, rfl⟩
  go_wp2
  try rw [HW1.out]
  go_ret2
  exact ⟨⟨_, _, rfl, HC.out.below HB1.out⟩, HB1.out⟩
 | false =>
  rw [if_neg (by simp)]
  have GD := xh (fun v h => yy698 yt oA oC oo hgq.2.2.2.1 htq hol hof hot v h)
  have HOP := xh (hop.below HB1.out)
  have hsm := yy383 yt oo
  obtain ⟨s, HS⟩ : ∃ s, Hid (dTxt yt oo = s) := ⟨_, xh rfl⟩
  rw [HS.out] at hsm ⊢
  by_cases hE : dErr yt oo = 0
  rotate_left
  ·rw [if_pos hE]
   obtain ⟨E, HE0⟩ : ∃ E, Hid (dErr yt oo = E) := ⟨_, xh rfl⟩
   rw [HE0.out] at hE ⊢
   have hE2 : (((E : Nat) : Int) != 0) = true := by
    have : ¬ ((E : Nat) : Int) = 0 := by omega
    simpa using this
   clear hsm hE
   go_enter Tryd.func33, Tryd.ntmps33
   go_wp2_with fail
   try rw [HW1.out]
   refine (GF.out).mono ?_
   rintro e v ⟨rfl, rfl⟩
   go_wp2
   refine wp_region_lit sc1 (by kernel_rfl) (by kernel_rfl) (fun _ _ d _ _ h => by cases d <;> exact h) ?_
   simp only [picked, sc1, xmc, xmn, xgs, xgz, xgd]
   have e4 := fun e : Ext w1.drew => Ext.cell (w := w1.drew) z4 e
   have e5 := fun e : Ext w1.drew => Ext.cell (w := w1.drew) x5 e
   repeat (first | (refine yy0 (by rfl) (fun K hK => ?_); go_big_quiet_op; refine hK _ ?_; clear hK K) | (refine yy2 (by rfl) ?_; simp only [Act.put, xsa, xsz, xss]))
   refine yy4 (by rfl) (fun K hK => ?_)
   go_simp
   refine (GD.out _ HOP.out.drew).mono ?_
   rintro e v ⟨he, hb⟩
   obtain rfl := he.eq
   have HB2 : Hid (Below w1.heap.size w1 v) := (Below.drew (Below.refl _ w1)).trans (hb.mono (by simp))
   refine hK _ _ hb ?_
   clear hK K hb e4 e5
   repeat (first | (refine yy0 (by rfl) (fun K hK => ?_); go_big_quiet_op; refine hK _ ?_; clear hK K) | (refine yy2 (by rfl) ?_; simp only [Act.put, xsa, xsz, xss]))
   refine yy13 ?_
   rw [HS.out, HE0.out]
   go_wp2
   go_ret2
   exact ⟨⟨_, _, rfl, HC.out.below (HB1.out.trans (HB2.out.mono (by omega)))⟩, HB1.out.trans (HB2.out.mono (by omega))⟩
  rw [if_neg (fun h => h hE)]
  have HE0 := xh hE
  clear hE
  have GW := xh (fun v h => yy315 (some ⟨b, off, none⟩) c l hq ⟨yi, yp, yn, false, s⟩ hl v h)
  have GT := xh (fun A' c' v h => yy429 A' c' (l.set q ⟨yi, yp, yn, false, s⟩) (by rw [List.length_set]; omega) (fun y hy => by
   rcases List.mem_or_eq_of_mem_set hy with h | rfl
   ·exact HG.out y h
   ·exact ⟨hgq.1, hgq.2.1, hgq.2.2.1, hsm.1, by unfold maxLen; show s.length ≤ _; omega⟩) (fun y hy => by
   rcases List.mem_or_eq_of_mem_set hy with h | rfl
   ·have := HT.out y h; omega
   ·show s.length ≤ _; omega) v h)
  rw [List.length_set] at GT
  simp only [yy8] at GW
  clear hsm hgq htq
  generalize rTotal (l.set q ⟨yi, yp, yn, false, s⟩) = tot at GT ⊢
  by_cases ht : 10000 < tot
  ·rw [if_pos ht]
   have ht2 : (10000 : Int) < ((tot : Nat) : Int) := by omega
   clear ht
   go_enter Tryd.func33, Tryd.ntmps33
   go_wp2_with fail
   try rw [HW1.out]
   refine (GF.out).mono ?_
   rintro e v ⟨rfl, rfl⟩
   go_wp2
   refine wp_region_lit sc1 (by kernel_rfl) (by kernel_rfl) (fun _ _ d _ _ h => by cases d <;> exact h) ?_
   simp only [picked, sc1, xmc, xmn, xgs, xgz, xgd]
   have e4 := fun e : Ext w1.drew => Ext.cell (w := w1.drew) z4 e
   have e5 := fun e : Ext w1.drew => Ext.cell (w := w1.drew) x5 e
   repeat (first | (refine yy0 (by rfl) (fun K hK => ?_); go_big_quiet_op; refine hK _ ?_; clear hK K) | (refine yy2 (by rfl) ?_; simp only [Act.put, xsa, xsz, xss]))
   refine yy4 (by rfl) (fun K hK => ?_)
   go_simp
   refine (GD.out _ HOP.out.drew).mono ?_
   rintro e v ⟨he, hb⟩
   obtain rfl := he.eq
   have HB2 : Hid (Below w1.heap.size w1 v) := (Below.drew (Below.refl _ w1)).trans (hb.mono (by simp))
   refine hK _ _ hb ?_
   clear hK K hb e4 e5
   repeat (first | (refine yy0 (by rfl) (fun K hK => ?_); go_big_quiet_op; refine hK _ ?_; clear hK K) | (refine yy2 (by rfl) ?_; simp only [Act.put, xsa, xsz, xss]))
   refine yy13 ?_
   have v0 := (HB2.out.cell (World.block_lt_of_cell? _ _ z0)).trans z0
   have v1 := (HB2.out.cell (World.block_lt_of_cell? _ _ z1)).trans z1
   have v2 := (HB2.out.cell (World.block_lt_of_cell? _ _ z2)).trans z2
   have v3 := (HB2.out.cell (World.block_lt_of_cell? _ _ z3)).trans z3
   have v4 := (HB2.out.cell (World.block_lt_of_cell? _ _ z4)).trans z4
   clear z0 z1 z2 z3 z4 x0 x1 x2 x3 x4 x5
   rw [HS.out, HE0.out]
   go_wp2_with fail
   refine (GW.out _ ((HA.out.below HB2.out).below ((Below.refl _ _).alloc (Nat.le_refl _) _))).mono ?_
   rintro e v2 ⟨⟨A', c', rfl, hown⟩, hb⟩
   have HO := xh hown
   have HB3 : Hid (Below v.heap.size v v2) := ((Below.refl _ _).alloc (Nat.le_refl _) _).trans (hb.mono (by simp))
   clear hown hb
   go_wp2_with fail
   refine (GT.out A' c' _ HO.out.nodes.1).mono ?_
   rintro e v3 ⟨rfl, hb⟩
   have HB4 := xh hb
   clear hb
   go_wp2
   go_ret2
   exact ⟨⟨_, _, rfl, HC.out.below (HB1.out.trans ((HB2.out.mono (by omega)).trans ((HB3.out.mono (by have := HB2.out.size; omega)).trans (HB4.out.mono (by have := HB2.out.size; have := HB3.out.size; omega)))))⟩, HB1.out.trans ((HB2.out.mono (by omega)).trans ((HB3.out.mono (by have := HB2.out.size; omega)).trans (HB4.out.mono (by have := HB2.out.size; have := HB3.out.size; omega))))⟩
  ·rw [if_neg ht]
   have ht2 : ¬ (10000 : Int) < ((tot : Nat) : Int) := by omega
   clear ht
   go_enter Tryd.func33, Tryd.ntmps33
   go_wp2_with fail
   try rw [HW1.out]
   refine (GF.out).mono ?_
   rintro e v ⟨rfl, rfl⟩
   go_wp2
   refine wp_region_lit sc1 (by kernel_rfl) (by kernel_rfl) (fun _ _ d _ _ h => by cases d <;> exact h) ?_
   simp only [picked, sc1, xmc, xmn, xgs, xgz, xgd]
   have e4 := fun e : Ext w1.drew => Ext.cell (w := w1.drew) z4 e
   have e5 := fun e : Ext w1.drew => Ext.cell (w := w1.drew) x5 e
   repeat (first | (refine yy0 (by rfl) (fun K hK => ?_); go_big_quiet_op; refine hK _ ?_; clear hK K) | (refine yy2 (by rfl) ?_; simp only [Act.put, xsa, xsz, xss]))
   refine yy4 (by rfl) (fun K hK => ?_)
   go_simp
   refine (GD.out _ HOP.out.drew).mono ?_
   rintro e v ⟨he, hb⟩
   obtain rfl := he.eq
   have HB2 : Hid (Below w1.heap.size w1 v) := (Below.drew (Below.refl _ w1)).trans (hb.mono (by simp))
   refine hK _ _ hb ?_
   clear hK K hb e4 e5
   repeat (first | (refine yy0 (by rfl) (fun K hK => ?_); go_big_quiet_op; refine hK _ ?_; clear hK K) | (refine yy2 (by rfl) ?_; simp only [Act.put, xsa, xsz, xss]))
   refine yy13 ?_
   have v0 := (HB2.out.cell (World.block_lt_of_cell? _ _ z0)).trans z0
   have v1 := (HB2.out.cell (World.block_lt_of_cell? _ _ z1)).trans z1
   have v2 := (HB2.out.cell (World.block_lt_of_cell? _ _ z2)).trans z2
   have v3 := (HB2.out.cell (World.block_lt_of_cell? _ _ z3)).trans z3
   have v4 := (HB2.out.cell (World.block_lt_of_cell? _ _ z4)).trans z4
   clear z0 z1 z2 z3 z4 x0 x1 x2 x3 x4 x5
   rw [HS.out, HE0.out]
   go_wp2_with fail
   refine (GW.out _ ((HA.out.below HB2.out).below ((Below.refl _ _).alloc (Nat.le_refl _) _))).mono ?_
   rintro e v2 ⟨⟨A', c', rfl, hown⟩, hb⟩
   have HO := xh hown
   have HB3 : Hid (Below v.heap.size v v2) := ((Below.refl _ _).alloc (Nat.le_refl _) _).trans (hb.mono (by simp))
   clear hown hb
   go_wp2_with fail
   refine (GT.out A' c' _ HO.out.nodes.1).mono ?_
   rintro e v3 ⟨rfl, hb⟩
   have HB4 := xh hb
   clear hb
   go_wp2
   go_ret2
   exact ⟨⟨_, _, by simp, HO.out.nodes.below HB4.out⟩, HB1.out.trans ((HB2.out.mono (by omega)).trans ((HB3.out.mono (by have := HB2.out.size; omega)).trans (HB4.out.mono (by have := HB2.out.size; have := HB3.out.size; omega))))⟩
set_option maxHeartbeats 4000000 in
set_option maxRecDepth 100000 in
theorem yy434 (A B : Option Addr) (ca cb : Nat) (l m : List NodeV) (hl : l.length ≤ maxLen) (hm : m.length ≤ maxLen) (hgl : ∀ y ∈ l, y.Good) (hgm : ∀ y ∈ m, y.Good) (w : World) (hA : yy14 w A l) (hB : yy14 w B m) :
  Calls Tryd.prog 18 #[.slice A l.length ca, .slice B m.length cb] w fun e w' => e = .returned (.bool (sameN l m)) ∧ Below w.heap.size w w' := by
 unfold maxLen at hl hm
 have HA := xh hA; clear hA
 have HB := xh hB; clear hB
 have HGL := xh hgl; clear hgl
 have HGM := xh hgm; clear hgm
 obtain ⟨T, HT⟩ : ∃ T, Hid (sameN l m = T) := ⟨_, xh rfl⟩
 rw [HT.out]
 by_cases hlen : l.length = m.length
 ·rw [← hlen]
  have HLEN := xh hlen
  clear hlen
  go_enter Tryd.func18, Tryd.ntmps18
  go_wp2
  go_loopw [5] (fun i wr => ∃ k : Nat, k ≤ l.length ∧ i = .int .i64 k ∧ l.take k = m.take k ∧ Below w.heap.size w wr) (fun i _ => l.length - (intOf i).toNat)
  case atStart => exact ⟨0, Nat.zero_le _, rfl, rfl, Below.refl _ _⟩
  case round =>
   obtain ⟨k, hk, rfl, htk, hbel⟩ := hrel
   have HBEL := xh hbel; clear hbel
   have HTK := xh htk; clear htk
   by_cases hlt : k < l.length
   ·have hlt2 : k < m.length := by have := HLEN.out; omega
    obtain ⟨b1, o1, rfl, _⟩ := HA.out.form (by omega)
    obtain ⟨b2, o2, rfl, _⟩ := HB.out.form (by omega)
    obtain ⟨x0, x1, x2, x3, x4⟩ := (HA.out.below HBEL.out).at_ hlt
    obtain ⟨y0, y1, y2, y3, y4⟩ := (HB.out.below HBEL.out).at_ hlt2
    have HYES : Hid (l[k] = m[k] → l.take (k + 1) = m.take (k + 1)) := fun h => by rw [List.take_succ_eq_append_getElem hlt, List.take_succ_eq_append_getElem hlt2, HTK.out, h]
    have HNO : Hid (l[k] ≠ m[k] → T = false) := fun h => by rw [← HT.out]; exact yy600 fun e => h (by subst e; rfl)
    have HG1 := xh (HGL.out l[k] (List.getElem_mem hlt))
    have HG2 := xh (HGM.out m[k] (List.getElem_mem hlt2))
    generalize l[k] = c at x0 x1 x2 x3 x4 HYES HNO HG1
    generalize m[k] = d at y0 y1 y2 y3 y4 HYES HNO HG2
    clear hlt2
    obtain ⟨i1, p1, n1, d1, t1⟩ := c
    obtain ⟨i2, p2, n2, d2, t2⟩ := d
    simp only at x0 x1 x2 x3 x4 y0 y1 y2 y3 y4
    by_cases e0 : i1 = i2
    ·subst e0
     by_cases e1 : p1 = p2
     ·subst e1
      by_cases e2 : n1 = n2
      ·subst e2
       by_cases e3 : d1 = d2
       ·subst e3
        by_cases e4 : t1 = t2
        ·subst e4
         go_wp2_with fail
         go_region
         go_wp2
         go_roundw
         case rel => exact ⟨k + 1, by omega, by go_num, HYES.out trivial, HBEL.out.drew⟩
         case measure => simp [intOf]; omega
        ·have HF : Hid (T = false) := HNO.out fun h => e4 (by injection h)
         have g2 : ((bstr t1).toList == (bstr t2).toList) = false := bstr_neq fun h => e4 (bstr_inj _ _ HG1.out.2.2.2.1 HG2.out.2.2.2.1 h)
         have g2' : ((bstr t1).toList != (bstr t2).toList) = true := by rw [bne, g2]; rfl
         clear e4
         go_wp2_with fail
         go_region
         go_wp2
         go_ret
         exact ⟨by rw [HF.out]; rfl, HBEL.out.drew⟩
       ·have HF : Hid (T = false) := HNO.out fun h => e3 (by injection h)
        cases d1
        ·cases d2
         ·exact absurd rfl e3
         ·clear e3
          go_wp2_with fail
          go_region
          go_wp2
          go_ret
          exact ⟨by rw [HF.out]; rfl, HBEL.out.drew⟩
        ·cases d2
         ·clear e3
          go_wp2_with fail
          go_region
          go_wp2
          go_ret
          exact ⟨by rw [HF.out]; rfl, HBEL.out.drew⟩
         ·exact absurd rfl e3
      ·have HF : Hid (T = false) := HNO.out fun h => e2 (by injection h)
       have g2 : ((bstr n1).toList == (bstr n2).toList) = false := bstr_neq fun h => e2 (bstr_inj _ _ HG1.out.2.2.1.1 HG2.out.2.2.1.1 h)
       have g2' : ((bstr n1).toList != (bstr n2).toList) = true := by rw [bne, g2]; rfl
       clear e2
       go_wp2_with fail
       go_region
       go_wp2
       go_ret
       exact ⟨by rw [HF.out]; rfl, HBEL.out.drew⟩
     ·have HF : Hid (T = false) := HNO.out fun h => e1 (by injection h)
      have g1 : (p1 == p2) = false := xn e1
      have g1' : (p1 != p2) = true := by rw [bne, g1]; rfl
      clear e1
      go_wp2_with fail
      go_region
      go_wp2
      go_ret
      exact ⟨by rw [HF.out]; rfl, HBEL.out.drew⟩
    ·have HF : Hid (T = false) := HNO.out fun h => e0 (by injection h)
     have g1 : (i1 == i2) = false := xn e0
     have g1' : (i1 != i2) = true := by rw [bne, g1]; rfl
     clear e0
     go_wp2_with fail
     go_region
     go_wp2
     go_ret
     exact ⟨by rw [HF.out]; rfl, HBEL.out.drew⟩
   ·have HR : Hid (T = true) := by
     show T = true
     rw [← HT.out]
     refine yy485 ?_
     have h1 := HTK.out
     have hke : k = l.length := by omega
     have := HLEN.out
     rw [List.take_of_length_le (by omega), List.take_of_length_le (by omega)] at h1
     exact h1
    go_wp2
    go_ret
    exact ⟨by rw [HR.out]; rfl, HBEL.out⟩
 ·have HF : Hid (T = false) := by
   show T = false
   rw [← HT.out]
   exact yy600 fun h => hlen (by rw [h])
  have g1 : ((l.length : Int) != (m.length : Int)) = true := by simp; omega
  clear hlen
  go_enter Tryd.func18, Tryd.ntmps18
  go_wp2
  go_ret
  exact ⟨by rw [HF.out]; rfl, Below.refl _ _⟩
end Go.Proofs.YtjpjdkdbgjipnaaDoor
