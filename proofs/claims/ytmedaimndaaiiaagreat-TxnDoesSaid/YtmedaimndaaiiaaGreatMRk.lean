/- The document's own Children: IDs by their names. Conditions: no more than 2^20 nodes, nodes that may be. (Merged of 8 texts.) -/
import Derived.Test.YtmedaimndaaiiaaGreatMCells
import Derived.Deep.QuietTactic
import Derived.BigQuiet
import Derived.Test.YtmedaimndaaiiaaGreatMNd
import Derived.Test.YtmedaimndaaiiaaGreatMApp
import Derived.Test.YtmedaimndaaiiaaGreatMPt
import Derived.Test.YtmedaimndaaiiaaGreatMMono
import Derived.BigRegion
import Derived.Deep.CutRange
import Derived.Deep.CutBlock
/- The contract of alike.Ints, over two slices that read alike. Condition: no slice is longer than memory. -/
namespace Go.Proofs.YtmedaimndaaiiaaGreat
open Go.RowKit Go.Deep

theorem below_drewN {B : Nat} {w x : World} (h : Below B w x) (n : Nat) : Below B w (x.drewN n) := ⟨h.os, h.tape, h.output, h.size, h.block⟩
set_option maxRecDepth 100000 in
theorem alikeInts_same {A B : Option Addr} {l : List Int} (c d : Nat) (hl : l.length ≤ maxLen) (w : World) (hA : IntsAt w A l) (hB : IntsAt w B l) :
    Calls Tryz.prog 16 #[.slice A l.length c, .slice B l.length d] w fun e w' => e = .returned (.bool true) ∧ Below w.heap.size w w' := by
  unfold maxLen at hl
  have HA := Lib.hid hA; clear hA
  have HB := Lib.hid hB; clear hB
  have e2 : ((l.length : Int) != (l.length : Int)) = false := by simp
  go_enter Tryz.func16, Tryz.ntmps16
  go_wp2
  go_loopw [5] (fun i wr => ∃ k : Nat, k ≤ l.length ∧ i = .int .i64 k ∧ Below w.heap.size w wr) (fun i _ => l.length - (intOf i).toNat)
  case atStart => exact ⟨0, Nat.zero_le _, rfl, Below.refl _ _⟩
  case round =>
    obtain ⟨k, hk, rfl, hbel⟩ := hrel
    have HBEL := Lib.hid hbel; clear hbel
    by_cases hlt : k < l.length
    · obtain ⟨a, ao, rfl, _⟩ := HA.out.form (by omega)
      obtain ⟨b, bo, rfl, _⟩ := HB.out.form (by omega)
      have h1 := (HA.out.below HBEL.out).cell hlt
      have h2 := (HB.out.below HBEL.out).cell hlt
      obtain ⟨x, HX⟩ : ∃ x, Hid (l[k] = x) := ⟨l[k], Lib.hid rfl⟩
      rw [HX.out] at h1 h2
      have e3 : (x != x) = false := by simp
      go_wp2
      go_quiet (fail)
      go_wp2
      go_roundw
      case rel => exact ⟨k + 1, by omega, by go_num, below_drewN HBEL.out _⟩
      case measure => simp [intOf]; omega
    · go_wp2
      go_ret
      exact ⟨rfl, HBEL.out⟩
end Go.Proofs.YtmedaimndaaiiaaGreat

/- The document's own Do, over nodes: a move that is done. Conditions: as RefNDo's. -/
namespace Go.Proofs.YtmedaimndaaiiaaGreat
open Go.RowKit Go.Deep

set_option maxHeartbeats 2000000 in
set_option maxRecDepth 100000 in
theorem refNDo_move (A : Option Addr) (c : Nat) (l : List NodeV) (a : ActV) (hl : l.length ≤ 1048576) (hg : ∀ y ∈ l, y.Good) (hnb : ∀ x ∈ a.name, x < 256) (hnl : a.name.length ≤ maxLen) (hk : a.kind = 3) (hn : IsName a.name) {q : Nat} (hf : rFind l a.id = some q) (hq : q < l.length) (hp : rPlace l a.parent a.name a.id = 0) (w : World) (hC : NodesC w A c l) :
    Calls Tryz.prog 54 #[.slice A l.length c, .agg (actCells a).toArray] w fun e w' => NDo w' (rDo l a) e ∧ Below w.heap.size w w' := by
  have HC := Lib.hid hC
  clear hC
  obtain ⟨w1, HW1⟩ : ∃ x', Hid (w.alloc (.cells (actCells a).toArray 25) = x') := ⟨_, Lib.hid rfl⟩
  have hs1 : w1.heap.size = w.heap.size + 1 := by rw [← HW1.out]; simp
  have HB1 : Hid (Below w.heap.size w w1) := by
    show Below _ _ _
    rw [← HW1.out]
    exact (Below.refl _ _).alloc (Nat.le_refl _) _
  have HX : Hid (∀ (f : Nat) (v : Value), (actCells a)[f]? = some v → w1.cell? ⟨w.heap.size, f, none⟩ = some v) := by
    intro f v hf
    rw [← HW1.out, cell_of_row _ _ _ _ _ _ (heap_alloc_new w _)]
    simpa using hf
  have HA := Lib.hid (HC.out.1.below HB1.out)
  have GF := Lib.hid (refFind_any A c l a.id (by unfold maxLen; omega) w1 HA.out)
  have GN := Lib.hid (refName_any a.name hnb hnl w1)
  have GP := Lib.hid (refPlace_any A c l a.parent a.name a.id hl hg hnb w1 HA.out)
  have GW := Lib.hid (fun v h => refWith_any A c l hq ⟨l[q].id, a.parent, a.name, l[q].dir, l[q].text⟩ hl v h)
  obtain ⟨kk, ii, pp, nn, dd, oA, oC, oo⟩ := a
  simp only [actCells] at *
  have x0 := HX.out 0 _ rfl
  have x1 := HX.out 1 _ rfl
  have x2 := HX.out 2 _ rfl
  have x3 := HX.out 3 _ rfl
  have x4 := HX.out 4 _ rfl
  have x5 := HX.out 5 _ rfl
  obtain rfl : kk = 3 := hk
  rw [rDo_m4 rfl hn hq hf hp]
  rw [rName_yes hn] at GN
  rw [hp] at GP
  rw [hf, show findI (some q) = (q : Int) from rfl] at GF
  have hqi : (q : Int) < (l.length : Int) := by omega
  have hq0 : ¬ (q : Int) < 0 := by omega
  clear hn hf hp
  obtain ⟨b, off, rfl, _⟩ := HA.out.form (by omega)
  obtain ⟨z0, z1, z2, z3, z4⟩ := HA.out.at_ hq
  generalize l[q] = y at z0 z1 z2 z3 z4 GW ⊢
  obtain ⟨yi, yp, yn, yd, yt⟩ := y
  simp only at z0 z1 z2 z3 z4 GW ⊢
  go_enter Tryz.func54, Tryz.ntmps54
  go_wp2_with fail
  try rw [HW1.out]
  refine (GF.out).mono ?_
  rintro e v ⟨rfl, rfl⟩
  go_wp2_with fail
  try rw [HW1.out]
  refine (GN.out).mono ?_
  rintro e v ⟨rfl, rfl⟩
  go_wp2_with fail
  try rw [HW1.out]
  refine (GP.out).mono ?_
  rintro e v ⟨rfl, rfl⟩
  go_wp2_with fail
  try rw [HW1.out]
  refine (GW.out _ (HA.out.below ((Below.refl _ _).alloc (Nat.le_refl _) _))).mono ?_
  rintro e v ⟨⟨A', c', rfl, hown⟩, hb⟩
  have HO := Lib.hid hown
  have HB2 : Hid (Below w1.heap.size w1 v) := ((Below.refl _ _).alloc (Nat.le_refl _) _).trans (hb.mono (by simp))
  clear hown hb
  go_wp2
  go_ret2
  exact ⟨⟨_, _, by simp, HO.out.nodes⟩, HB1.out.trans (HB2.out.mono (by omega))⟩

end Go.Proofs.YtmedaimndaaiiaaGreat

/- The document's own Do, over nodes: a node that is there is taken away, or held. Conditions: as RefNDo's. -/
namespace Go.Proofs.YtmedaimndaaiiaaGreat
open Go.RowKit Go.Deep
def nGone : Sched Nat := (.quiet 1 (.quiet 2 (.quiet 3 (.quiet 5 (.quiet 6 (.quiet 7 (.quiet 8 (.one 0 (.one 4 (.one 9 (.quiet 10 (.quiet 11 .done))))))))))))

set_option maxHeartbeats 2000000 in
set_option maxRecDepth 100000 in
theorem refNDo_remove (A : Option Addr) (c : Nat) (l : List NodeV) (a : ActV) (hl : l.length ≤ 1048576) (hk : a.kind = 2) {q : Nat} (hf : rFind l a.id = some q) (hq : q < l.length) (w : World) (hC : NodesC w A c l) :
    Calls Tryz.prog 54 #[.slice A l.length c, .agg (actCells a).toArray] w fun e w' => NDo w' (rDo l a) e ∧ Below w.heap.size w w' := by
  have HC := Lib.hid hC
  clear hC
  obtain ⟨w1, HW1⟩ : ∃ x', Hid (w.alloc (.cells (actCells a).toArray 25) = x') := ⟨_, Lib.hid rfl⟩
  have hs1 : w1.heap.size = w.heap.size + 1 := by rw [← HW1.out]; simp
  have HB1 : Hid (Below w.heap.size w w1) := by
    show Below _ _ _
    rw [← HW1.out]
    exact (Below.refl _ _).alloc (Nat.le_refl _) _
  have HX : Hid (∀ (f : Nat) (v : Value), (actCells a)[f]? = some v → w1.cell? ⟨w.heap.size, f, none⟩ = some v) := by
    intro f v hf
    rw [← HW1.out, cell_of_row _ _ _ _ _ _ (heap_alloc_new w _)]
    simpa using hf
  have HA := Lib.hid (HC.out.1.below HB1.out)
  have GF := Lib.hid (refFind_any A c l a.id (by unfold maxLen; omega) w1 HA.out)

  obtain ⟨kk, ii, pp, nn, dd, oA, oC, oo⟩ := a
  simp only [actCells] at *
  have x0 := HX.out 0 _ rfl
  have x1 := HX.out 1 _ rfl
  have x2 := HX.out 2 _ rfl
  have x3 := HX.out 3 _ rfl
  have x4 := HX.out 4 _ rfl
  have x5 := HX.out 5 _ rfl
  obtain rfl : kk = 2 := hk
  rw [hf, show findI (some q) = (q : Int) from rfl] at GF
  have hqi : (q : Int) < (l.length : Int) := by omega
  have hq0 : ¬ (q : Int) < 0 := by omega
  have HF := Lib.hid hf
  clear hf
  obtain ⟨b, off, rfl, _⟩ := HA.out.form (by omega)
  obtain ⟨R, HR0⟩ : ∃ R, Hid (rDo l ⟨2, ii, pp, nn, dd, oA, oC, oo⟩ = R) := ⟨_, Lib.hid rfl⟩
  rw [HR0.out]
  go_enter Tryz.func54, Tryz.ntmps54
  go_wp2_with fail
  try rw [HW1.out]
  refine (GF.out).mono ?_
  rintro e v ⟨rfl, rfl⟩
  go_wp2
  go_loopw [10] (fun i wr => ∃ k : Nat, k ≤ l.length ∧ i = .int .i64 (k : Int) ∧ Below w1.heap.size w1 wr ∧ Hid (∀ (j : Nat) (hj : j < l.length), j < k → l[j].parent ≠ ii)) (fun i _ => l.length - (intOf i).toNat)
  case atStart => exact ⟨0, Nat.zero_le _, rfl, Below.refl _ _, Lib.hid (fun j _ h => by omega)⟩
  case round =>
    obtain ⟨k, hk, rfl, hbel, HN⟩ := hrel
    have HBEL := Lib.hid hbel; clear hbel
    by_cases hlt : k < l.length
    · have z1 := (HBEL.out.cell (World.block_lt_of_cell? _ _ (HA.out.at_ hlt).2.1)).trans (HA.out.at_ hlt).2.1
      have y1 := (HBEL.out.cell (World.block_lt_of_cell? _ _ x1)).trans x1
      have hki : (k : Int) < (l.length : Int) := by omega
      have HE : Hid (l[k].parent = ii → R = (l, 9)) := fun h => HR0.out ▸ rDo_r2 rfl HF.out ⟨_, List.getElem_mem hlt, h⟩
      have HNN : Hid (l[k].parent ≠ ii → ∀ (j : Nat) (hj : j < l.length), j < k + 1 → l[j].parent ≠ ii) := fun h j hj hjk => by
        rcases Nat.lt_or_ge j k with g | g
        · exact HN.out j hj g
        · obtain rfl : j = k := by omega
          exact h
      generalize l[k].parent = y at z1 HE HNN
      by_cases he : y = ii
      · have HR := Lib.hid (HE.out he)
        have he2 : (y == ii) = true := by simpa using he
        clear HE HNN he
        go_wp2
        go_quiet (fail)
        go_wp2
        go_ret2
        rw [HR.out]
        exact ⟨⟨_, _, rfl, HC.out.below (HB1.out.trans ((below_drewN HBEL.out _).mono (by omega)))⟩, HB1.out.trans ((below_drewN HBEL.out _).mono (by omega))⟩
      · have he2 : (y == ii) = false := beq_eq_false_iff_ne.2 he
        have HR := Lib.hid (HNN.out he)
        clear HE HNN he
        go_wp2
        go_quiet (fail)
        go_wp2
        go_roundw
        case rel => exact ⟨k + 1, by omega, by go_num, below_drewN HBEL.out _, HR⟩
        case measure => simp [intOf]; omega
    · have HR : Hid (R = (l.take q ++ l.drop (q + 1), 0)) := HR0.out ▸ rDo_r3 rfl HF.out (fun ⟨y, hy, e⟩ => by
        obtain ⟨j, hj⟩ := List.getElem?_of_mem hy
        obtain ⟨h1, h2⟩ := List.getElem?_eq_some_iff.1 hj
        rw [← h2] at e
        exact HN.out j h1 (by omega) e)
      have hkn : ¬ (k : Int) < (l.length : Int) := by omega
      have hc := HC.out.2
      have hl1 : (l.take q).length = q := by simp; omega
      have hl2 : (l.drop (q + 1)).length = l.length - (q + 1) := by simp
      have cut1 : ∀ w : World, (Instr.slice 38 (.slice (some ⟨b, off, none⟩) l.length c) none (some (.int .i64 (q : Int))) none).run Tryz.prog w = .ok (.slice (nHigh (some ⟨b, off, none⟩) c) (l.take q).length c) w := fun w => by
        rw [hl1]
        exact ncut_high (some ⟨b, off, none⟩) l.length c q (by omega) w
      have cut2 : ∀ w : World, (Instr.slice 38 (.slice (some ⟨b, off, none⟩) l.length c) (some (.int .i64 ((q : Int) + 1))) none none).run Tryz.prog w = .ok (.slice (nLow (some ⟨b, off, none⟩) (q + 1) c) (l.drop (q + 1)).length (c - (q + 1))) w := fun w => by
        rw [hl2]
        exact ncut_low (some ⟨b, off, none⟩) l.length c (q + 1) (by omega) w
      have HM1 : Hid (∀ v : World, NodesAt v (some ⟨b, off, none⟩) l → NodesAt v (nHigh (some ⟨b, off, none⟩) c) (l.take q)) := fun v h => h.high c q
      have HM2 : Hid (∀ v : World, NodesAt v (some ⟨b, off, none⟩) l → NodesAt v (nLow (some ⟨b, off, none⟩) (q + 1) c) (l.drop (q + 1))) := fun v h => h.low c (q + 1) hc
      have HLEN : Hid ((l.take q).length + (l.drop (q + 1)).length ≤ 1048576) := by show _ ≤ _; rw [hl1, hl2]; omega
      clear hl1 hl2
      generalize l.take q = m1 at HM1 cut1 HR HLEN
      generalize l.drop (q + 1) = m2 at HM2 cut2 HR HLEN
      generalize nHigh (some ⟨b, off, none⟩) c = A1 at HM1 cut1
      generalize nLow (some ⟨b, off, none⟩) (q + 1) c = A2 at HM2 cut2
      clear hc
      go_wp2
      refine Sched.wp_region_tree (some wr.heap.size) nGone (by kernel_rfl) (by kernel_rfl) (fun _ _ d _ _ h => by cases d <;> exact h) ?_
      simp only [nGone, Sched.picked, List.getElem?_cons_succ, List.getElem?_cons_zero, Option.getD_some]
      repeat (first | (refine Sched.walk_quiet (by rfl) (fun K hK => ?_); go_big_quiet_op; refine hK _ ?_; clear hK K) | (refine Sched.walk_skip_quiet (by rfl) ?_; simp only [Act.put, List.setIfInBounds_toArray, List.set_cons_zero, List.set_cons_succ]))
      have HWR := Lib.hid ((HA.out.below HBEL.out).drew)
      have HBD := Lib.hid HBEL.out.drew
      have hsd : wr.heap.size = wr.drew.heap.size := rfl
      rw [hsd]
      generalize wr.drew = wd at HWR HBD ⊢
      refine Sched.walk_one (by rfl) (fun K hK => ?_)
      go_simp
      have HE := Lib.hid (OwnN.empty wd (Nat.le_refl _))
      have HB3 : Hid (Below wd.heap.size wd (wd.alloc (.cells #[] 52))) := Lib.hid ((Below.refl _ _).alloc (Nat.le_refl _) _)
      refine hK _ _ HB3.out ?_
      clear hK K
      refine Sched.walk_one (by rfl) (fun K hK => ?_)
      refine wp_nodes_app (.tmp 114) (.tmp 117) rfl HE.out (by simp) c (HM1.out _ (HWR.out.below HB3.out)) (by have := HLEN.out; simp; omega) rfl rfl ?_
      intro A3 c3 w3 hown hb
      have HO3 := Lib.hid hown
      have HB4 := Lib.hid hb
      refine hK _ _ HB4.out ?_
      clear hK K hown hb
      simp only [Act.put, List.setIfInBounds_toArray, List.set_cons_zero, List.set_cons_succ, List.nil_append]
      refine Sched.walk_one (by rfl) (fun K hK => ?_)
      refine wp_nodes_app (.tmp 118) (.tmp 122) rfl HO3.out (by have := HB3.out.size; have := HB4.out.size; omega) (c - (q + 1)) (HM2.out _ (HWR.out.below (HB3.out.trans HB4.out))) (by have := HLEN.out; simp; omega) rfl rfl ?_
      intro A5 c5 w5 hown hb
      have HO5 := Lib.hid hown
      have HB5 := Lib.hid hb
      refine hK _ _ HB5.out ?_
      clear hK K hown hb
      simp only [Act.put, List.setIfInBounds_toArray, List.set_cons_zero, List.set_cons_succ]
      repeat (first | (refine Sched.walk_quiet (by rfl) (fun K hK => ?_); go_big_quiet_op; refine hK _ ?_; clear hK K) | (refine Sched.walk_skip_quiet (by rfl) ?_; simp only [Act.put, List.setIfInBounds_toArray, List.set_cons_zero, List.set_cons_succ]))
      refine Sched.walk_done ?_
      go_wp2
      go_ret2
      have hbel : Below w1.heap.size w1 w5 := HBD.out.trans (((HB3.out.trans HB4.out).trans HB5.out).mono HBD.out.size)
      rw [HR.out]
      exact ⟨⟨_, _, rfl, HO5.out.nodes⟩, HB1.out.trans (hbel.mono (by omega))⟩

end Go.Proofs.YtmedaimndaaiiaaGreat

/- The document's own Do, over nodes: an edit of a node that is there. Conditions: as RefNDo's; texts of no more than 2^30 bytes. -/
namespace Go.Proofs.YtmedaimndaaiiaaGreat
open Go.RowKit Go.Deep

set_option maxHeartbeats 2000000 in
set_option maxRecDepth 100000 in
theorem refNDo_edit (A : Option Addr) (c : Nat) (l : List NodeV) (a : ActV) (hl : l.length ≤ 1048576) (hg : ∀ y ∈ l, y.Good) (ht : ∀ y ∈ l, y.text.length ≤ 1073741824) (hk : a.kind = 4) {q : Nat} (hf : rFind l a.id = some q) (hq : q < l.length) (hol : a.ops.length ≤ maxLen) (hof : Fine1 a.ops) (hot : tlen a.ops ≤ 1073741824) (w : World) (hop : CompsAt w a.opsA a.ops) (hC : NodesC w A c l) :
    Calls Tryz.prog 54 #[.slice A l.length c, .agg (actCells a).toArray] w fun e w' => NDo w' (rDo l a) e ∧ Below w.heap.size w w' := by
  have HC := Lib.hid hC
  clear hC
  obtain ⟨w1, HW1⟩ : ∃ x', Hid (w.alloc (.cells (actCells a).toArray 25) = x') := ⟨_, Lib.hid rfl⟩
  have hs1 : w1.heap.size = w.heap.size + 1 := by rw [← HW1.out]; simp
  have HB1 : Hid (Below w.heap.size w w1) := by
    show Below _ _ _
    rw [← HW1.out]
    exact (Below.refl _ _).alloc (Nat.le_refl _) _
  have HX : Hid (∀ (f : Nat) (v : Value), (actCells a)[f]? = some v → w1.cell? ⟨w.heap.size, f, none⟩ = some v) := by
    intro f v hf
    rw [← HW1.out, cell_of_row _ _ _ _ _ _ (heap_alloc_new w _)]
    simpa using hf
  have HA := Lib.hid (HC.out.1.below HB1.out)
  have GF := Lib.hid (refFind_any A c l a.id (by unfold maxLen; omega) w1 HA.out)

  obtain ⟨kk, ii, pp, nn, dd, oA, oC, oo⟩ := a
  simp only [actCells] at *
  have x0 := HX.out 0 _ rfl
  have x1 := HX.out 1 _ rfl
  have x2 := HX.out 2 _ rfl
  have x3 := HX.out 3 _ rfl
  have x4 := HX.out 4 _ rfl
  have x5 := HX.out 5 _ rfl
  obtain rfl : kk = 4 := hk
  rw [rDo_e rfl hq hf]
  rw [hf, show findI (some q) = (q : Int) from rfl] at GF
  have hqi : (q : Int) < (l.length : Int) := by omega
  have hq0 : ¬ (q : Int) < 0 := by omega
  clear hf
  obtain ⟨b, off, rfl, _⟩ := HA.out.form (by omega)
  obtain ⟨z0, z1, z2, z3, z4⟩ := HA.out.at_ hq
  have hgq := hg l[q] (List.getElem_mem hq)
  have htq := ht l[q] (List.getElem_mem hq)
  have HG := Lib.hid hg
  have HT := Lib.hid ht
  clear hg ht
  generalize l[q] = y at z0 z1 z2 z3 z4 hgq htq ⊢
  obtain ⟨yi, yp, yn, yd, yt⟩ := y
  simp only at z0 z1 z2 z3 z4 hgq htq ⊢
  cases yd with
  | true =>
    rw [if_pos rfl]
    go_enter Tryz.func54, Tryz.ntmps54
    go_wp2_with fail
    try rw [HW1.out]
    refine (GF.out).mono ?_
    rintro e v ⟨rfl, rfl⟩
    go_wp2
    try rw [HW1.out]
    go_ret2
    exact ⟨⟨_, _, rfl, HC.out.below HB1.out⟩, HB1.out⟩
  | false =>
    rw [if_neg (by simp)]
    have GD := Lib.hid (fun v h => refDo_any yt oA oC oo hgq.2.2.2.1 htq hol hof hot v h)
    have HOP := Lib.hid (hop.below HB1.out)
    have hsm := dTxt_small yt oo
    obtain ⟨s, HS⟩ : ∃ s, Hid (dTxt yt oo = s) := ⟨_, Lib.hid rfl⟩
    rw [HS.out] at hsm ⊢
    by_cases hE : dErr yt oo = 0
    rotate_left
    · rw [if_pos hE]
      obtain ⟨E, HE0⟩ : ∃ E, Hid (dErr yt oo = E) := ⟨_, Lib.hid rfl⟩
      rw [HE0.out] at hE ⊢
      have hE2 : (((E : Nat) : Int) != 0) = true := by
        have : ¬ ((E : Nat) : Int) = 0 := by omega
        simpa using this
      clear hsm hE
      go_enter Tryz.func54, Tryz.ntmps54
      go_wp2_with fail
      try rw [HW1.out]
      refine (GF.out).mono ?_
      rintro e v ⟨rfl, rfl⟩
      go_wp2
      refine wp_region_lit [(0, true), (1, true), (2, true), (3, true), (4, true), (5, true), (6, true), (7, false), (8, true), (9, true), (10, true), (11, true), (12, true)] (by kernel_rfl) (by kernel_rfl) (fun _ _ d _ _ h => by cases d <;> exact h) ?_
      simp only [picked, List.map_cons, List.map_nil, List.getElem?_cons_succ, List.getElem?_cons_zero, Option.getD_some]
      have e4 := fun e : Ext w1.drew => Ext.cell (w := w1.drew) z4 e
      have e5 := fun e : Ext w1.drew => Ext.cell (w := w1.drew) x5 e
      repeat (first | (refine wpL_quiet (by rfl) (fun K hK => ?_); go_big_quiet_op; refine hK _ ?_; clear hK K) | (refine wpL_skip (by rfl) ?_; simp only [Act.put, List.setIfInBounds_toArray, List.set_cons_zero, List.set_cons_succ]))
      refine wpL_call (by rfl) (fun K hK => ?_)
      go_simp
      refine (GD.out _ HOP.out.drew).mono ?_
      rintro e v ⟨he, hb⟩
      obtain rfl := he.eq
      have HB2 : Hid (Below w1.heap.size w1 v) := (Below.drew (Below.refl _ w1)).trans (hb.mono (by simp))
      refine hK _ _ hb ?_
      clear hK K hb e4 e5
      repeat (first | (refine wpL_quiet (by rfl) (fun K hK => ?_); go_big_quiet_op; refine hK _ ?_; clear hK K) | (refine wpL_skip (by rfl) ?_; simp only [Act.put, List.setIfInBounds_toArray, List.set_cons_zero, List.set_cons_succ]))
      refine wpL_nil ?_
      rw [HS.out, HE0.out]
      go_wp2
      go_ret2
      exact ⟨⟨_, _, rfl, HC.out.below (HB1.out.trans (HB2.out.mono (by omega)))⟩, HB1.out.trans (HB2.out.mono (by omega))⟩
    rw [if_neg (fun h => h hE)]
    have HE0 := Lib.hid hE
    clear hE
    have GW := Lib.hid (fun v h => refWith_any (some ⟨b, off, none⟩) c l hq ⟨yi, yp, yn, false, s⟩ hl v h)
    have GT := Lib.hid (fun A' c' v h => refTotal_any A' c' (l.set q ⟨yi, yp, yn, false, s⟩) (by rw [List.length_set]; omega) (fun y hy => by
      rcases List.mem_or_eq_of_mem_set hy with h | rfl
      · exact HG.out y h
      · exact ⟨hgq.1, hgq.2.1, hgq.2.2.1, hsm.1, by unfold maxLen; show s.length ≤ _; omega⟩) (fun y hy => by
      rcases List.mem_or_eq_of_mem_set hy with h | rfl
      · have := HT.out y h; omega
      · show s.length ≤ _; omega) v h)
    rw [List.length_set] at GT
    simp only [nodeCells] at GW
    clear hsm hgq htq
    generalize rTotal (l.set q ⟨yi, yp, yn, false, s⟩) = tot at GT ⊢
    by_cases ht : 10000 < tot
    · rw [if_pos ht]
      have ht2 : (10000 : Int) < ((tot : Nat) : Int) := by omega
      clear ht
      go_enter Tryz.func54, Tryz.ntmps54
      go_wp2_with fail
      try rw [HW1.out]
      refine (GF.out).mono ?_
      rintro e v ⟨rfl, rfl⟩
      go_wp2
      refine wp_region_lit [(0, true), (1, true), (2, true), (3, true), (4, true), (5, true), (6, true), (7, false), (8, true), (9, true), (10, true), (11, true), (12, true)] (by kernel_rfl) (by kernel_rfl) (fun _ _ d _ _ h => by cases d <;> exact h) ?_
      simp only [picked, List.map_cons, List.map_nil, List.getElem?_cons_succ, List.getElem?_cons_zero, Option.getD_some]
      have e4 := fun e : Ext w1.drew => Ext.cell (w := w1.drew) z4 e
      have e5 := fun e : Ext w1.drew => Ext.cell (w := w1.drew) x5 e
      repeat (first | (refine wpL_quiet (by rfl) (fun K hK => ?_); go_big_quiet_op; refine hK _ ?_; clear hK K) | (refine wpL_skip (by rfl) ?_; simp only [Act.put, List.setIfInBounds_toArray, List.set_cons_zero, List.set_cons_succ]))
      refine wpL_call (by rfl) (fun K hK => ?_)
      go_simp
      refine (GD.out _ HOP.out.drew).mono ?_
      rintro e v ⟨he, hb⟩
      obtain rfl := he.eq
      have HB2 : Hid (Below w1.heap.size w1 v) := (Below.drew (Below.refl _ w1)).trans (hb.mono (by simp))
      refine hK _ _ hb ?_
      clear hK K hb e4 e5
      repeat (first | (refine wpL_quiet (by rfl) (fun K hK => ?_); go_big_quiet_op; refine hK _ ?_; clear hK K) | (refine wpL_skip (by rfl) ?_; simp only [Act.put, List.setIfInBounds_toArray, List.set_cons_zero, List.set_cons_succ]))
      refine wpL_nil ?_
      have v0 := (HB2.out.cell (World.block_lt_of_cell? _ _ z0)).trans z0
      have v1 := (HB2.out.cell (World.block_lt_of_cell? _ _ z1)).trans z1
      have v2 := (HB2.out.cell (World.block_lt_of_cell? _ _ z2)).trans z2
      have v3 := (HB2.out.cell (World.block_lt_of_cell? _ _ z3)).trans z3
      have v4 := (HB2.out.cell (World.block_lt_of_cell? _ _ z4)).trans z4
      clear z0 z1 z2 z3 z4 x0 x1 x2 x3 x4 x5
      rw [HS.out, HE0.out]
      go_wp2_with fail
      refine (GW.out _ ((HA.out.below HB2.out).below ((Below.refl _ _).alloc (Nat.le_refl _) _))).mono ?_
      rintro e v2 ⟨⟨A', c', rfl, hown⟩, hb⟩
      have HO := Lib.hid hown
      have HB3 : Hid (Below v.heap.size v v2) := ((Below.refl _ _).alloc (Nat.le_refl _) _).trans (hb.mono (by simp))
      clear hown hb
      go_wp2_with fail
      refine (GT.out A' c' _ HO.out.nodes.1).mono ?_
      rintro e v3 ⟨rfl, hb⟩
      have HB4 := Lib.hid hb
      clear hb
      go_wp2
      go_ret2
      exact ⟨⟨_, _, rfl, HC.out.below (HB1.out.trans ((HB2.out.mono (by omega)).trans ((HB3.out.mono (by have := HB2.out.size; omega)).trans (HB4.out.mono (by have := HB2.out.size; have := HB3.out.size; omega)))))⟩, HB1.out.trans ((HB2.out.mono (by omega)).trans ((HB3.out.mono (by have := HB2.out.size; omega)).trans (HB4.out.mono (by have := HB2.out.size; have := HB3.out.size; omega))))⟩
    · rw [if_neg ht]
      have ht2 : ¬ (10000 : Int) < ((tot : Nat) : Int) := by omega
      clear ht
      go_enter Tryz.func54, Tryz.ntmps54
      go_wp2_with fail
      try rw [HW1.out]
      refine (GF.out).mono ?_
      rintro e v ⟨rfl, rfl⟩
      go_wp2
      refine wp_region_lit [(0, true), (1, true), (2, true), (3, true), (4, true), (5, true), (6, true), (7, false), (8, true), (9, true), (10, true), (11, true), (12, true)] (by kernel_rfl) (by kernel_rfl) (fun _ _ d _ _ h => by cases d <;> exact h) ?_
      simp only [picked, List.map_cons, List.map_nil, List.getElem?_cons_succ, List.getElem?_cons_zero, Option.getD_some]
      have e4 := fun e : Ext w1.drew => Ext.cell (w := w1.drew) z4 e
      have e5 := fun e : Ext w1.drew => Ext.cell (w := w1.drew) x5 e
      repeat (first | (refine wpL_quiet (by rfl) (fun K hK => ?_); go_big_quiet_op; refine hK _ ?_; clear hK K) | (refine wpL_skip (by rfl) ?_; simp only [Act.put, List.setIfInBounds_toArray, List.set_cons_zero, List.set_cons_succ]))
      refine wpL_call (by rfl) (fun K hK => ?_)
      go_simp
      refine (GD.out _ HOP.out.drew).mono ?_
      rintro e v ⟨he, hb⟩
      obtain rfl := he.eq
      have HB2 : Hid (Below w1.heap.size w1 v) := (Below.drew (Below.refl _ w1)).trans (hb.mono (by simp))
      refine hK _ _ hb ?_
      clear hK K hb e4 e5
      repeat (first | (refine wpL_quiet (by rfl) (fun K hK => ?_); go_big_quiet_op; refine hK _ ?_; clear hK K) | (refine wpL_skip (by rfl) ?_; simp only [Act.put, List.setIfInBounds_toArray, List.set_cons_zero, List.set_cons_succ]))
      refine wpL_nil ?_
      have v0 := (HB2.out.cell (World.block_lt_of_cell? _ _ z0)).trans z0
      have v1 := (HB2.out.cell (World.block_lt_of_cell? _ _ z1)).trans z1
      have v2 := (HB2.out.cell (World.block_lt_of_cell? _ _ z2)).trans z2
      have v3 := (HB2.out.cell (World.block_lt_of_cell? _ _ z3)).trans z3
      have v4 := (HB2.out.cell (World.block_lt_of_cell? _ _ z4)).trans z4
      clear z0 z1 z2 z3 z4 x0 x1 x2 x3 x4 x5
      rw [HS.out, HE0.out]
      go_wp2_with fail
      refine (GW.out _ ((HA.out.below HB2.out).below ((Below.refl _ _).alloc (Nat.le_refl _) _))).mono ?_
      rintro e v2 ⟨⟨A', c', rfl, hown⟩, hb⟩
      have HO := Lib.hid hown
      have HB3 : Hid (Below v.heap.size v v2) := ((Below.refl _ _).alloc (Nat.le_refl _) _).trans (hb.mono (by simp))
      clear hown hb
      go_wp2_with fail
      refine (GT.out A' c' _ HO.out.nodes.1).mono ?_
      rintro e v3 ⟨rfl, hb⟩
      have HB4 := Lib.hid hb
      clear hb
      go_wp2
      go_ret2
      exact ⟨⟨_, _, by simp, HO.out.nodes.below HB4.out⟩, HB1.out.trans ((HB2.out.mono (by omega)).trans ((HB3.out.mono (by have := HB2.out.size; omega)).trans (HB4.out.mono (by have := HB2.out.size; have := HB3.out.size; omega))))⟩

end Go.Proofs.YtmedaimndaaiiaaGreat

/- The document's own Do, over nodes: a node is created. Conditions: as RefNDo's. -/
namespace Go.Proofs.YtmedaimndaaiiaaGreat
open Go.RowKit Go.Deep
def nNew0 : Sched Nat := (.one 7 (.one 11 (.quiet 12 (.quiet 13 .done))))
def nNew1 : Sched Nat := (.one 4 nNew0)
def nNew : Sched Nat := (.quiet 1 (.quiet 2 (.quiet 3 (.quiet 5 (.quiet 8 (.quiet 9 (.quiet 10 (.two 0 (.two 4 (.one 6 nNew0) 6 nNew1) 6 (.one 0 nNew1)))))))))

set_option maxHeartbeats 2000000 in
set_option maxRecDepth 100000 in
theorem refNDo_create (A : Option Addr) (c : Nat) (l : List NodeV) (a : ActV) (hl : l.length ≤ 1048576) (hg : ∀ y ∈ l, y.Good) (hnb : ∀ x ∈ a.name, x < 256) (hnl : a.name.length ≤ maxLen) (hk : a.kind = 1) (hid : IdOk a.id) (hn : IsName a.name) (hf : rFind l a.id = none) (hp : rPlace l a.parent a.name 0 = 0) (h100 : l.length < 100) (w : World) (hC : NodesC w A c l) :
    Calls Tryz.prog 54 #[.slice A l.length c, .agg (actCells a).toArray] w fun e w' => NDo w' (rDo l a) e ∧ Below w.heap.size w w' := by
  have HC := Lib.hid hC
  clear hC
  obtain ⟨w1, HW1⟩ : ∃ x', Hid (w.alloc (.cells (actCells a).toArray 25) = x') := ⟨_, Lib.hid rfl⟩
  have hs1 : w1.heap.size = w.heap.size + 1 := by rw [← HW1.out]; simp
  have HB1 : Hid (Below w.heap.size w w1) := by
    show Below _ _ _
    rw [← HW1.out]
    exact (Below.refl _ _).alloc (Nat.le_refl _) _
  have HX : Hid (∀ (f : Nat) (v : Value), (actCells a)[f]? = some v → w1.cell? ⟨w.heap.size, f, none⟩ = some v) := by
    intro f v hf
    rw [← HW1.out, cell_of_row _ _ _ _ _ _ (heap_alloc_new w _)]
    simpa using hf
  have HA := Lib.hid (HC.out.1.below HB1.out)
  have GF := Lib.hid (refFind_any A c l a.id (by unfold maxLen; omega) w1 HA.out)
  have GN := Lib.hid (refName_any a.name hnb hnl w1)
  have GP := Lib.hid (refPlace_any A c l a.parent a.name 0 hl hg hnb w1 HA.out)
  obtain ⟨kk, ii, pp, nn, dd, oA, oC, oo⟩ := a
  simp only [actCells] at *
  have x0 := HX.out 0 _ rfl
  have x1 := HX.out 1 _ rfl
  have x2 := HX.out 2 _ rfl
  have x3 := HX.out 3 _ rfl
  have x4 := HX.out 4 _ rfl
  have x5 := HX.out 5 _ rfl
  obtain rfl : kk = 1 := hk
  rw [rDo_c5 rfl ⟨hid, hn⟩ hf hp (by omega)]
  have i1 : ¬ ii < 1 := by have := hid.1; omega
  have i2 : ¬ 1099511627776 < ii := by have := hid.2; omega
  rw [rName_yes hn] at GN
  rw [hp] at GP
  rw [hf, show findI none = -1 from rfl] at GF
  have h100i : ¬ (100 : Int) ≤ (l.length : Int) := by omega
  clear hn hid hf hp
  have hnew : newNode ⟨1, ii, pp, nn, dd, oA, oC, oo⟩ = ⟨ii, pp, nn, dd, []⟩ := rfl
  rw [hnew]
  have HLE := Lib.hid (rAt_le l ii)
  have HLT := Lib.hid (fun k h => @rAt_lt l ii k h)
  have HGE := Lib.hid (@rAt_ge l ii)
  simp only at HLE HLT HGE ⊢
  generalize rAt l ii = q at HLE HLT HGE ⊢
  obtain ⟨R, HR⟩ : ∃ R : List NodeV × Int, Hid (R = ((l.take q ++ [⟨ii, pp, nn, dd, []⟩]) ++ l.drop q, 0)) := ⟨_, Lib.hid rfl⟩
  rw [show (l.take q ++ (⟨ii, pp, nn, dd, []⟩ : NodeV) :: l.drop q, (0 : Int)) = R from by rw [HR.out]; simp]
  go_enter Tryz.func54, Tryz.ntmps54
  go_wp2_with fail
  try rw [HW1.out]
  refine (GF.out).mono ?_
  rintro e v ⟨rfl, rfl⟩
  go_wp2_with fail
  try rw [HW1.out]
  refine (GN.out).mono ?_
  rintro e v ⟨rfl, rfl⟩
  go_wp2_with fail
  try rw [HW1.out]
  refine (GP.out).mono ?_
  rintro e v ⟨rfl, rfl⟩
  go_wp2
  go_loopw [8] (fun i wr => ∃ k : Nat, k ≤ q ∧ i = .int .i64 (k : Int) ∧ Below w1.heap.size w1 wr) (fun i _ => q - (intOf i).toNat)
  case atStart => exact ⟨0, Nat.zero_le _, rfl, Below.refl _ _⟩
  case round =>
    obtain ⟨k, hk, rfl, hbel⟩ := hrel
    have HBEL := Lib.hid hbel; clear hbel
    have y1 := (HBEL.out.cell (World.block_lt_of_cell? _ _ x1)).trans x1
    by_cases hlt : k < q
    · obtain ⟨hkl, hyl⟩ := HLT.out k hlt
      obtain ⟨b, off, rfl, _⟩ := HA.out.form (by omega)
      have z0 := (HBEL.out.cell (World.block_lt_of_cell? _ _ (HA.out.at_ hkl).1)).trans (HA.out.at_ hkl).1
      have hki : (k : Int) < (l.length : Int) := by omega
      generalize l[k].id = y at z0 hyl
      go_wp2
      go_quiet (fail)
      go_wp2
      go_roundw
      case rel => exact ⟨k + 1, by omega, by go_num, below_drewN HBEL.out _⟩
      case measure => simp [intOf]; omega
    · have hkq : k = q := by omega
      subst hkq
      have y2 := (HBEL.out.cell (World.block_lt_of_cell? _ _ x2)).trans x2
      have y3 := (HBEL.out.cell (World.block_lt_of_cell? _ _ x3)).trans x3
      have y4 := (HBEL.out.cell (World.block_lt_of_cell? _ _ x4)).trans x4
      have hc := HC.out.2
      have hle := HLE.out
      have hl1 : (l.take k).length = k := by simp; omega
      have hl2 : (l.drop k).length = l.length - k := by simp
      have cut1 : ∀ w : World, (Instr.slice 38 (.slice A l.length c) none (some (.int .i64 (k : Int))) none).run Tryz.prog w = .ok (.slice (nHigh A c) (l.take k).length c) w := fun w => by
        rw [hl1]
        exact ncut_high A l.length c k (by omega) w
      have cut2 : ∀ w : World, (Instr.slice 38 (.slice A l.length c) (some (.int .i64 (k : Int))) none none).run Tryz.prog w = .ok (.slice (nLow A k c) (l.drop k).length (c - k)) w := fun w => by
        rw [hl2]
        exact ncut_low A l.length c k (by omega) w
      have HM1 : Hid (∀ v : World, NodesAt v A l → NodesAt v (nHigh A c) (l.take k)) := fun v h => h.high c k
      have HM2 : Hid (∀ v : World, NodesAt v A l → NodesAt v (nLow A k c) (l.drop k)) := fun v h => h.low c k hc
      have HLEN : Hid ((l.take k).length + (l.drop k).length ≤ 1048576) := by show _ ≤ _; rw [hl1, hl2]; omega
      clear hl1 hl2
      generalize l.take k = m1 at HM1 cut1 HR HLEN
      generalize l.drop k = m2 at HM2 cut2 HR HLEN
      generalize nHigh A c = A1 at HM1 cut1
      generalize nLow A k c = A2 at HM2 cut2
      clear hc hle
      by_cases hkl : k < l.length
      · obtain ⟨b, off, rfl, _⟩ := HA.out.form (by omega)
        have z0 := (HBEL.out.cell (World.block_lt_of_cell? _ _ (HA.out.at_ hkl).1)).trans (HA.out.at_ hkl).1
        have hki : (k : Int) < (l.length : Int) := by omega
        have hyl := HGE.out hkl
        generalize l[k].id = y at z0 hyl
        go_wp2
        go_quiet (fail)
        have y1' : (wr.drewN nq).cell? ⟨w.heap.size, 1, none⟩ = some (.int .i64 ii) := y1
        have y2' : (wr.drewN nq).cell? ⟨w.heap.size, 2, none⟩ = some (.int .i64 pp) := y2
        have y3' : (wr.drewN nq).cell? ⟨w.heap.size, 3, none⟩ = some (.string (bstr nn)) := y3
        have y4' : (wr.drewN nq).cell? ⟨w.heap.size, 4, none⟩ = some (.bool dd) := y4
        have HBQ : Hid (Below w1.heap.size w1 (wr.drewN nq)) := below_drewN HBEL.out nq
        generalize wr.drewN nq = wq at y1' y2' y3' y4' HBQ ⊢
        go_wp2
        obtain ⟨wn, HWN⟩ : ∃ x, Hid (wq.alloc (.cells #[.int .i64 ii, .int .i64 pp, .string (bstr nn), .bool dd, .string { data := #[] }] 52) = x) := ⟨_, Lib.hid rfl⟩
        rw [HWN.out]
        have HNC : Hid (∀ (f : Nat) (v : Value), #[.int .i64 ii, .int .i64 pp, .string (bstr nn), .bool dd, .string { data := #[] }][f]? = some v → wn.drew.cell? ⟨wq.heap.size, f, none⟩ = some v) := by
          intro f v hf
          show wn.cell? _ = _
          rw [← HWN.out, cell_of_row _ _ _ _ _ _ (heap_alloc_new wq _)]
          exact hf
        have HBD : Hid (Below w1.heap.size w1 wn.drew) := by
          show Below _ _ _
          rw [← HWN.out]
          exact (HBQ.out.alloc HBQ.out.size _).drew
        have hsn : wq.heap.size < wn.drew.heap.size := by
          show wq.heap.size < wn.heap.size
          rw [← HWN.out]
          simp
        have HWR := Lib.hid (HA.out.below HBD.out)
        refine Sched.wp_region_tree (some wn.heap.size) nNew (by kernel_rfl) (by kernel_rfl) (fun _ _ d _ _ h => by cases d <;> exact h) ?_
        simp only [nNew, nNew1, nNew0, Sched.picked, List.getElem?_cons_succ, List.getElem?_cons_zero, Option.getD_some]
        have hsd : wn.heap.size = wn.drew.heap.size := rfl
        rw [hsd]
        generalize wn.drew = wd at HNC HBD HWR hsn ⊢
        have n0 := fun e : ExtB (some wd.heap.size) wd => (e.property.cell (p := ⟨wq.heap.size, 0, none⟩) hsn).trans (HNC.out 0 _ rfl)
        have n1 := fun e : ExtB (some wd.heap.size) wd => (e.property.cell (p := ⟨wq.heap.size, 1, none⟩) hsn).trans (HNC.out 1 _ rfl)
        have n2 := fun e : ExtB (some wd.heap.size) wd => (e.property.cell (p := ⟨wq.heap.size, 2, none⟩) hsn).trans (HNC.out 2 _ rfl)
        have n3 := fun e : ExtB (some wd.heap.size) wd => (e.property.cell (p := ⟨wq.heap.size, 3, none⟩) hsn).trans (HNC.out 3 _ rfl)
        have n4 := fun e : ExtB (some wd.heap.size) wd => (e.property.cell (p := ⟨wq.heap.size, 4, none⟩) hsn).trans (HNC.out 4 _ rfl)
        repeat (first | (refine Sched.walk_quiet (by rfl) (fun K hK => ?_); go_big_quiet_op; refine hK _ ?_; clear hK K) | (refine Sched.walk_skip_quiet (by rfl) ?_; simp only [Act.put, List.setIfInBounds_toArray, List.set_cons_zero, List.set_cons_succ]))
        clear n0 n1 n2 n3 n4
        have HB : Hid (Below wd.heap.size wd wd) := Lib.hid (Below.refl _ _)
        refine Sched.walk_two ?_ ?_
        · refine Sched.walk_one (by rfl) (fun K hK => ?_)
          go_simp
          have HO : Hid (OwnN ((wd).alloc (.cells #[] 52)) wd.heap.size (some ⟨wd.heap.size, 0, none⟩) 0 []) := by
            have h := OwnN.empty (B := wd.heap.size) wd HB.out.size
            rw [show (wd).heap.size = wd.heap.size from rfl] at h
            exact Lib.hid h
          refine hK _ _ ((Below.refl _ _).alloc HB.out.size _) ?_
          replace HB : Hid (Below wd.heap.size wd ((wd).alloc (.cells #[] 52))) := Lib.hid (HB.out.alloc HB.out.size _)
          clear hK K
          try simp only [Act.put, List.setIfInBounds_toArray, List.set_cons_zero, List.set_cons_succ]
          refine Sched.walk_two ?_ ?_
          · refine Sched.walk_one (by rfl) (fun K hK => ?_)
            refine wp_nodes_lies (.tmp 82) (.tmp 85) rfl HO.out HB.out.size c (HM1.out _ (HWR.out.below HB.out)) (by have := HLEN.out; simp; omega) rfl rfl ?_
            intro A1 c1 y1 hown hb hlies
            refine hK _ _ hb ?_
            replace HB : Hid (Below wd.heap.size wd y1) := Lib.hid (HB.out.trans hb)
            replace HO := Lib.hid hown
            clear hK K hown hb hlies
            try simp only [Act.put, List.setIfInBounds_toArray, List.set_cons_zero, List.set_cons_succ]
            refine Sched.walk_one (by rfl) (fun K hK => ?_)
            go_simp
            have HL : Hid (NodesAt ((y1).alloc (.cells #[.int .i64 ii, .int .i64 pp, .string (bstr nn), .bool dd, .string { data := #[] }] 52)) (some ⟨y1.heap.size, 0, none⟩) [⟨ii, pp, nn, dd, []⟩]) := Lib.hid (node_lit y1 ⟨ii, pp, nn, dd, []⟩ _ rfl)
            replace HO := Lib.hid (HO.out.alloc (.cells #[.int .i64 ii, .int .i64 pp, .string (bstr nn), .bool dd, .string { data := #[] }] 52))
            refine hK _ _ ((Below.refl _ _).alloc HB.out.size _) ?_
            replace HB : Hid (Below wd.heap.size wd ((y1).alloc (.cells #[.int .i64 ii, .int .i64 pp, .string (bstr nn), .bool dd, .string { data := #[] }] 52))) := Lib.hid (HB.out.alloc HB.out.size _)
            clear hK K
            try simp only [Act.put, List.setIfInBounds_toArray, List.set_cons_zero, List.set_cons_succ]
            refine Sched.walk_one (by rfl) (fun K hK => ?_)
            refine wp_nodes_lies (.tmp 86) (.tmp 88) rfl HO.out HB.out.size 1 HL.out (by have := HLEN.out; simp; omega) rfl rfl ?_
            intro A2 c2 y2 hown hb hlies
            refine hK _ _ hb ?_
            replace HB : Hid (Below wd.heap.size wd y2) := Lib.hid (HB.out.trans hb)
            replace HO := Lib.hid hown
            clear hK K hown hb hlies
            try simp only [Act.put, List.setIfInBounds_toArray, List.set_cons_zero, List.set_cons_succ]
            refine Sched.walk_one (by rfl) (fun K hK => ?_)
            refine wp_nodes_lies (.tmp 89) (.tmp 92) rfl HO.out HB.out.size (c - k) (HM2.out _ (HWR.out.below HB.out)) (by have := HLEN.out; simp; omega) rfl rfl ?_
            intro A3 c3 y3 hown hb hlies
            refine hK _ _ hb ?_
            replace HB : Hid (Below wd.heap.size wd y3) := Lib.hid (HB.out.trans hb)
            replace HO := Lib.hid hown
            clear hK K hown hb hlies
            try simp only [Act.put, List.setIfInBounds_toArray, List.set_cons_zero, List.set_cons_succ]
            repeat (first | (refine Sched.walk_quiet (by rfl) (fun K hK => ?_); go_big_quiet_op; refine hK _ ?_; clear hK K) | (refine Sched.walk_skip_quiet (by rfl) ?_; simp only [Act.put, List.setIfInBounds_toArray, List.set_cons_zero, List.set_cons_succ]))
            refine Sched.walk_done ?_
            go_wp2
            go_ret2
            have hbel : Below w1.heap.size w1 y3 := HBD.out.trans (HB.out.mono HBD.out.size)
            rw [HR.out]
            exact ⟨⟨_, _, rfl, HO.out.nodes⟩, HB1.out.trans (hbel.mono (by omega))⟩
          · refine Sched.walk_one (by rfl) (fun K hK => ?_)
            go_simp
            have HL : Hid (NodesAt ((((wd).alloc (.cells #[] 52))).alloc (.cells #[.int .i64 ii, .int .i64 pp, .string (bstr nn), .bool dd, .string { data := #[] }] 52)) (some ⟨(wd.heap.size + 1), 0, none⟩) [⟨ii, pp, nn, dd, []⟩]) := Lib.hid (node_lit ((wd).alloc (.cells #[] 52)) ⟨ii, pp, nn, dd, []⟩ _ (by simp))
            replace HO := Lib.hid (HO.out.alloc (.cells #[.int .i64 ii, .int .i64 pp, .string (bstr nn), .bool dd, .string { data := #[] }] 52))
            refine hK _ _ ((Below.refl _ _).alloc HB.out.size _) ?_
            replace HB : Hid (Below wd.heap.size wd ((((wd).alloc (.cells #[] 52))).alloc (.cells #[.int .i64 ii, .int .i64 pp, .string (bstr nn), .bool dd, .string { data := #[] }] 52))) := Lib.hid (HB.out.alloc HB.out.size _)
            clear hK K
            try simp only [Act.put, List.setIfInBounds_toArray, List.set_cons_zero, List.set_cons_succ]
            refine Sched.walk_one (by rfl) (fun K hK => ?_)
            refine wp_nodes_lies (.tmp 82) (.tmp 85) rfl HO.out HB.out.size c (HM1.out _ (HWR.out.below HB.out)) (by have := HLEN.out; simp; omega) rfl rfl ?_
            intro A1 c1 y1 hown hb hlies
            replace HL := Lib.hid (hlies _ _ (by simp <;> omega) (fun b e => by injection e with e; subst e; simp) HL.out)
            refine hK _ _ hb ?_
            replace HB : Hid (Below wd.heap.size wd y1) := Lib.hid (HB.out.trans hb)
            replace HO := Lib.hid hown
            clear hK K hown hb hlies
            try simp only [Act.put, List.setIfInBounds_toArray, List.set_cons_zero, List.set_cons_succ]
            refine Sched.walk_one (by rfl) (fun K hK => ?_)
            refine wp_nodes_lies (.tmp 86) (.tmp 88) rfl HO.out HB.out.size 1 HL.out (by have := HLEN.out; simp; omega) rfl rfl ?_
            intro A2 c2 y2 hown hb hlies
            refine hK _ _ hb ?_
            replace HB : Hid (Below wd.heap.size wd y2) := Lib.hid (HB.out.trans hb)
            replace HO := Lib.hid hown
            clear hK K hown hb hlies
            try simp only [Act.put, List.setIfInBounds_toArray, List.set_cons_zero, List.set_cons_succ]
            refine Sched.walk_one (by rfl) (fun K hK => ?_)
            refine wp_nodes_lies (.tmp 89) (.tmp 92) rfl HO.out HB.out.size (c - k) (HM2.out _ (HWR.out.below HB.out)) (by have := HLEN.out; simp; omega) rfl rfl ?_
            intro A3 c3 y3 hown hb hlies
            refine hK _ _ hb ?_
            replace HB : Hid (Below wd.heap.size wd y3) := Lib.hid (HB.out.trans hb)
            replace HO := Lib.hid hown
            clear hK K hown hb hlies
            try simp only [Act.put, List.setIfInBounds_toArray, List.set_cons_zero, List.set_cons_succ]
            repeat (first | (refine Sched.walk_quiet (by rfl) (fun K hK => ?_); go_big_quiet_op; refine hK _ ?_; clear hK K) | (refine Sched.walk_skip_quiet (by rfl) ?_; simp only [Act.put, List.setIfInBounds_toArray, List.set_cons_zero, List.set_cons_succ]))
            refine Sched.walk_done ?_
            go_wp2
            go_ret2
            have hbel : Below w1.heap.size w1 y3 := HBD.out.trans (HB.out.mono HBD.out.size)
            rw [HR.out]
            exact ⟨⟨_, _, rfl, HO.out.nodes⟩, HB1.out.trans (hbel.mono (by omega))⟩
        · refine Sched.walk_one (by rfl) (fun K hK => ?_)
          go_simp
          have HL : Hid (NodesAt ((wd).alloc (.cells #[.int .i64 ii, .int .i64 pp, .string (bstr nn), .bool dd, .string { data := #[] }] 52)) (some ⟨wd.heap.size, 0, none⟩) [⟨ii, pp, nn, dd, []⟩]) := Lib.hid (node_lit wd ⟨ii, pp, nn, dd, []⟩ _ rfl)
          refine hK _ _ ((Below.refl _ _).alloc HB.out.size _) ?_
          replace HB : Hid (Below wd.heap.size wd ((wd).alloc (.cells #[.int .i64 ii, .int .i64 pp, .string (bstr nn), .bool dd, .string { data := #[] }] 52))) := Lib.hid (HB.out.alloc HB.out.size _)
          clear hK K
          try simp only [Act.put, List.setIfInBounds_toArray, List.set_cons_zero, List.set_cons_succ]
          refine Sched.walk_one (by rfl) (fun K hK => ?_)
          go_simp
          have HO : Hid (OwnN ((((wd).alloc (.cells #[.int .i64 ii, .int .i64 pp, .string (bstr nn), .bool dd, .string { data := #[] }] 52))).alloc (.cells #[] 52)) wd.heap.size (some ⟨(wd.heap.size + 1), 0, none⟩) 0 []) := by
            have h := OwnN.empty (B := wd.heap.size) ((wd).alloc (.cells #[.int .i64 ii, .int .i64 pp, .string (bstr nn), .bool dd, .string { data := #[] }] 52)) HB.out.size
            rw [show (((wd).alloc (.cells #[.int .i64 ii, .int .i64 pp, .string (bstr nn), .bool dd, .string { data := #[] }] 52))).heap.size = (wd.heap.size + 1) from (by simp)] at h
            exact Lib.hid h
          replace HL := Lib.hid (HL.out.below ((Below.refl _ _).alloc (Nat.le_refl _) (.cells #[] 52)))
          refine hK _ _ ((Below.refl _ _).alloc HB.out.size _) ?_
          replace HB : Hid (Below wd.heap.size wd ((((wd).alloc (.cells #[.int .i64 ii, .int .i64 pp, .string (bstr nn), .bool dd, .string { data := #[] }] 52))).alloc (.cells #[] 52))) := Lib.hid (HB.out.alloc HB.out.size _)
          clear hK K
          try simp only [Act.put, List.setIfInBounds_toArray, List.set_cons_zero, List.set_cons_succ]
          refine Sched.walk_one (by rfl) (fun K hK => ?_)
          refine wp_nodes_lies (.tmp 82) (.tmp 85) rfl HO.out HB.out.size c (HM1.out _ (HWR.out.below HB.out)) (by have := HLEN.out; simp; omega) rfl rfl ?_
          intro A1 c1 y1 hown hb hlies
          replace HL := Lib.hid (hlies _ _ (by simp <;> omega) (fun b e => by injection e with e; subst e; simp) HL.out)
          refine hK _ _ hb ?_
          replace HB : Hid (Below wd.heap.size wd y1) := Lib.hid (HB.out.trans hb)
          replace HO := Lib.hid hown
          clear hK K hown hb hlies
          try simp only [Act.put, List.setIfInBounds_toArray, List.set_cons_zero, List.set_cons_succ]
          refine Sched.walk_one (by rfl) (fun K hK => ?_)
          refine wp_nodes_lies (.tmp 86) (.tmp 88) rfl HO.out HB.out.size 1 HL.out (by have := HLEN.out; simp; omega) rfl rfl ?_
          intro A2 c2 y2 hown hb hlies
          refine hK _ _ hb ?_
          replace HB : Hid (Below wd.heap.size wd y2) := Lib.hid (HB.out.trans hb)
          replace HO := Lib.hid hown
          clear hK K hown hb hlies
          try simp only [Act.put, List.setIfInBounds_toArray, List.set_cons_zero, List.set_cons_succ]
          refine Sched.walk_one (by rfl) (fun K hK => ?_)
          refine wp_nodes_lies (.tmp 89) (.tmp 92) rfl HO.out HB.out.size (c - k) (HM2.out _ (HWR.out.below HB.out)) (by have := HLEN.out; simp; omega) rfl rfl ?_
          intro A3 c3 y3 hown hb hlies
          refine hK _ _ hb ?_
          replace HB : Hid (Below wd.heap.size wd y3) := Lib.hid (HB.out.trans hb)
          replace HO := Lib.hid hown
          clear hK K hown hb hlies
          try simp only [Act.put, List.setIfInBounds_toArray, List.set_cons_zero, List.set_cons_succ]
          repeat (first | (refine Sched.walk_quiet (by rfl) (fun K hK => ?_); go_big_quiet_op; refine hK _ ?_; clear hK K) | (refine Sched.walk_skip_quiet (by rfl) ?_; simp only [Act.put, List.setIfInBounds_toArray, List.set_cons_zero, List.set_cons_succ]))
          refine Sched.walk_done ?_
          go_wp2
          go_ret2
          have hbel : Below w1.heap.size w1 y3 := HBD.out.trans (HB.out.mono HBD.out.size)
          rw [HR.out]
          exact ⟨⟨_, _, rfl, HO.out.nodes⟩, HB1.out.trans (hbel.mono (by omega))⟩
      · have hki : ¬ (k : Int) < (l.length : Int) := by omega
        go_wp2
        go_quiet (fail)
        have y1' : (wr.drewN nq).cell? ⟨w.heap.size, 1, none⟩ = some (.int .i64 ii) := y1
        have y2' : (wr.drewN nq).cell? ⟨w.heap.size, 2, none⟩ = some (.int .i64 pp) := y2
        have y3' : (wr.drewN nq).cell? ⟨w.heap.size, 3, none⟩ = some (.string (bstr nn)) := y3
        have y4' : (wr.drewN nq).cell? ⟨w.heap.size, 4, none⟩ = some (.bool dd) := y4
        have HBQ : Hid (Below w1.heap.size w1 (wr.drewN nq)) := below_drewN HBEL.out nq
        generalize wr.drewN nq = wq at y1' y2' y3' y4' HBQ ⊢
        go_wp2
        obtain ⟨wn, HWN⟩ : ∃ x, Hid (wq.alloc (.cells #[.int .i64 ii, .int .i64 pp, .string (bstr nn), .bool dd, .string { data := #[] }] 52) = x) := ⟨_, Lib.hid rfl⟩
        rw [HWN.out]
        have HNC : Hid (∀ (f : Nat) (v : Value), #[.int .i64 ii, .int .i64 pp, .string (bstr nn), .bool dd, .string { data := #[] }][f]? = some v → wn.drew.cell? ⟨wq.heap.size, f, none⟩ = some v) := by
          intro f v hf
          show wn.cell? _ = _
          rw [← HWN.out, cell_of_row _ _ _ _ _ _ (heap_alloc_new wq _)]
          exact hf
        have HBD : Hid (Below w1.heap.size w1 wn.drew) := by
          show Below _ _ _
          rw [← HWN.out]
          exact (HBQ.out.alloc HBQ.out.size _).drew
        have hsn : wq.heap.size < wn.drew.heap.size := by
          show wq.heap.size < wn.heap.size
          rw [← HWN.out]
          simp
        have HWR := Lib.hid (HA.out.below HBD.out)
        refine Sched.wp_region_tree (some wn.heap.size) nNew (by kernel_rfl) (by kernel_rfl) (fun _ _ d _ _ h => by cases d <;> exact h) ?_
        simp only [nNew, nNew1, nNew0, Sched.picked, List.getElem?_cons_succ, List.getElem?_cons_zero, Option.getD_some]
        have hsd : wn.heap.size = wn.drew.heap.size := rfl
        rw [hsd]
        generalize wn.drew = wd at HNC HBD HWR hsn ⊢
        have n0 := fun e : ExtB (some wd.heap.size) wd => (e.property.cell (p := ⟨wq.heap.size, 0, none⟩) hsn).trans (HNC.out 0 _ rfl)
        have n1 := fun e : ExtB (some wd.heap.size) wd => (e.property.cell (p := ⟨wq.heap.size, 1, none⟩) hsn).trans (HNC.out 1 _ rfl)
        have n2 := fun e : ExtB (some wd.heap.size) wd => (e.property.cell (p := ⟨wq.heap.size, 2, none⟩) hsn).trans (HNC.out 2 _ rfl)
        have n3 := fun e : ExtB (some wd.heap.size) wd => (e.property.cell (p := ⟨wq.heap.size, 3, none⟩) hsn).trans (HNC.out 3 _ rfl)
        have n4 := fun e : ExtB (some wd.heap.size) wd => (e.property.cell (p := ⟨wq.heap.size, 4, none⟩) hsn).trans (HNC.out 4 _ rfl)
        repeat (first | (refine Sched.walk_quiet (by rfl) (fun K hK => ?_); go_big_quiet_op; refine hK _ ?_; clear hK K) | (refine Sched.walk_skip_quiet (by rfl) ?_; simp only [Act.put, List.setIfInBounds_toArray, List.set_cons_zero, List.set_cons_succ]))
        clear n0 n1 n2 n3 n4
        have HB : Hid (Below wd.heap.size wd wd) := Lib.hid (Below.refl _ _)
        refine Sched.walk_two ?_ ?_
        · refine Sched.walk_one (by rfl) (fun K hK => ?_)
          go_simp
          have HO : Hid (OwnN ((wd).alloc (.cells #[] 52)) wd.heap.size (some ⟨wd.heap.size, 0, none⟩) 0 []) := by
            have h := OwnN.empty (B := wd.heap.size) wd HB.out.size
            rw [show (wd).heap.size = wd.heap.size from rfl] at h
            exact Lib.hid h
          refine hK _ _ ((Below.refl _ _).alloc HB.out.size _) ?_
          replace HB : Hid (Below wd.heap.size wd ((wd).alloc (.cells #[] 52))) := Lib.hid (HB.out.alloc HB.out.size _)
          clear hK K
          try simp only [Act.put, List.setIfInBounds_toArray, List.set_cons_zero, List.set_cons_succ]
          refine Sched.walk_two ?_ ?_
          · refine Sched.walk_one (by rfl) (fun K hK => ?_)
            refine wp_nodes_lies (.tmp 82) (.tmp 85) rfl HO.out HB.out.size c (HM1.out _ (HWR.out.below HB.out)) (by have := HLEN.out; simp; omega) rfl rfl ?_
            intro A1 c1 y1 hown hb hlies
            refine hK _ _ hb ?_
            replace HB : Hid (Below wd.heap.size wd y1) := Lib.hid (HB.out.trans hb)
            replace HO := Lib.hid hown
            clear hK K hown hb hlies
            try simp only [Act.put, List.setIfInBounds_toArray, List.set_cons_zero, List.set_cons_succ]
            refine Sched.walk_one (by rfl) (fun K hK => ?_)
            go_simp
            have HL : Hid (NodesAt ((y1).alloc (.cells #[.int .i64 ii, .int .i64 pp, .string (bstr nn), .bool dd, .string { data := #[] }] 52)) (some ⟨y1.heap.size, 0, none⟩) [⟨ii, pp, nn, dd, []⟩]) := Lib.hid (node_lit y1 ⟨ii, pp, nn, dd, []⟩ _ rfl)
            replace HO := Lib.hid (HO.out.alloc (.cells #[.int .i64 ii, .int .i64 pp, .string (bstr nn), .bool dd, .string { data := #[] }] 52))
            refine hK _ _ ((Below.refl _ _).alloc HB.out.size _) ?_
            replace HB : Hid (Below wd.heap.size wd ((y1).alloc (.cells #[.int .i64 ii, .int .i64 pp, .string (bstr nn), .bool dd, .string { data := #[] }] 52))) := Lib.hid (HB.out.alloc HB.out.size _)
            clear hK K
            try simp only [Act.put, List.setIfInBounds_toArray, List.set_cons_zero, List.set_cons_succ]
            refine Sched.walk_one (by rfl) (fun K hK => ?_)
            refine wp_nodes_lies (.tmp 86) (.tmp 88) rfl HO.out HB.out.size 1 HL.out (by have := HLEN.out; simp; omega) rfl rfl ?_
            intro A2 c2 y2 hown hb hlies
            refine hK _ _ hb ?_
            replace HB : Hid (Below wd.heap.size wd y2) := Lib.hid (HB.out.trans hb)
            replace HO := Lib.hid hown
            clear hK K hown hb hlies
            try simp only [Act.put, List.setIfInBounds_toArray, List.set_cons_zero, List.set_cons_succ]
            refine Sched.walk_one (by rfl) (fun K hK => ?_)
            refine wp_nodes_lies (.tmp 89) (.tmp 92) rfl HO.out HB.out.size (c - k) (HM2.out _ (HWR.out.below HB.out)) (by have := HLEN.out; simp; omega) rfl rfl ?_
            intro A3 c3 y3 hown hb hlies
            refine hK _ _ hb ?_
            replace HB : Hid (Below wd.heap.size wd y3) := Lib.hid (HB.out.trans hb)
            replace HO := Lib.hid hown
            clear hK K hown hb hlies
            try simp only [Act.put, List.setIfInBounds_toArray, List.set_cons_zero, List.set_cons_succ]
            repeat (first | (refine Sched.walk_quiet (by rfl) (fun K hK => ?_); go_big_quiet_op; refine hK _ ?_; clear hK K) | (refine Sched.walk_skip_quiet (by rfl) ?_; simp only [Act.put, List.setIfInBounds_toArray, List.set_cons_zero, List.set_cons_succ]))
            refine Sched.walk_done ?_
            go_wp2
            go_ret2
            have hbel : Below w1.heap.size w1 y3 := HBD.out.trans (HB.out.mono HBD.out.size)
            rw [HR.out]
            exact ⟨⟨_, _, rfl, HO.out.nodes⟩, HB1.out.trans (hbel.mono (by omega))⟩
          · refine Sched.walk_one (by rfl) (fun K hK => ?_)
            go_simp
            have HL : Hid (NodesAt ((((wd).alloc (.cells #[] 52))).alloc (.cells #[.int .i64 ii, .int .i64 pp, .string (bstr nn), .bool dd, .string { data := #[] }] 52)) (some ⟨(wd.heap.size + 1), 0, none⟩) [⟨ii, pp, nn, dd, []⟩]) := Lib.hid (node_lit ((wd).alloc (.cells #[] 52)) ⟨ii, pp, nn, dd, []⟩ _ (by simp))
            replace HO := Lib.hid (HO.out.alloc (.cells #[.int .i64 ii, .int .i64 pp, .string (bstr nn), .bool dd, .string { data := #[] }] 52))
            refine hK _ _ ((Below.refl _ _).alloc HB.out.size _) ?_
            replace HB : Hid (Below wd.heap.size wd ((((wd).alloc (.cells #[] 52))).alloc (.cells #[.int .i64 ii, .int .i64 pp, .string (bstr nn), .bool dd, .string { data := #[] }] 52))) := Lib.hid (HB.out.alloc HB.out.size _)
            clear hK K
            try simp only [Act.put, List.setIfInBounds_toArray, List.set_cons_zero, List.set_cons_succ]
            refine Sched.walk_one (by rfl) (fun K hK => ?_)
            refine wp_nodes_lies (.tmp 82) (.tmp 85) rfl HO.out HB.out.size c (HM1.out _ (HWR.out.below HB.out)) (by have := HLEN.out; simp; omega) rfl rfl ?_
            intro A1 c1 y1 hown hb hlies
            replace HL := Lib.hid (hlies _ _ (by simp <;> omega) (fun b e => by injection e with e; subst e; simp) HL.out)
            refine hK _ _ hb ?_
            replace HB : Hid (Below wd.heap.size wd y1) := Lib.hid (HB.out.trans hb)
            replace HO := Lib.hid hown
            clear hK K hown hb hlies
            try simp only [Act.put, List.setIfInBounds_toArray, List.set_cons_zero, List.set_cons_succ]
            refine Sched.walk_one (by rfl) (fun K hK => ?_)
            refine wp_nodes_lies (.tmp 86) (.tmp 88) rfl HO.out HB.out.size 1 HL.out (by have := HLEN.out; simp; omega) rfl rfl ?_
            intro A2 c2 y2 hown hb hlies
            refine hK _ _ hb ?_
            replace HB : Hid (Below wd.heap.size wd y2) := Lib.hid (HB.out.trans hb)
            replace HO := Lib.hid hown
            clear hK K hown hb hlies
            try simp only [Act.put, List.setIfInBounds_toArray, List.set_cons_zero, List.set_cons_succ]
            refine Sched.walk_one (by rfl) (fun K hK => ?_)
            refine wp_nodes_lies (.tmp 89) (.tmp 92) rfl HO.out HB.out.size (c - k) (HM2.out _ (HWR.out.below HB.out)) (by have := HLEN.out; simp; omega) rfl rfl ?_
            intro A3 c3 y3 hown hb hlies
            refine hK _ _ hb ?_
            replace HB : Hid (Below wd.heap.size wd y3) := Lib.hid (HB.out.trans hb)
            replace HO := Lib.hid hown
            clear hK K hown hb hlies
            try simp only [Act.put, List.setIfInBounds_toArray, List.set_cons_zero, List.set_cons_succ]
            repeat (first | (refine Sched.walk_quiet (by rfl) (fun K hK => ?_); go_big_quiet_op; refine hK _ ?_; clear hK K) | (refine Sched.walk_skip_quiet (by rfl) ?_; simp only [Act.put, List.setIfInBounds_toArray, List.set_cons_zero, List.set_cons_succ]))
            refine Sched.walk_done ?_
            go_wp2
            go_ret2
            have hbel : Below w1.heap.size w1 y3 := HBD.out.trans (HB.out.mono HBD.out.size)
            rw [HR.out]
            exact ⟨⟨_, _, rfl, HO.out.nodes⟩, HB1.out.trans (hbel.mono (by omega))⟩
        · refine Sched.walk_one (by rfl) (fun K hK => ?_)
          go_simp
          have HL : Hid (NodesAt ((wd).alloc (.cells #[.int .i64 ii, .int .i64 pp, .string (bstr nn), .bool dd, .string { data := #[] }] 52)) (some ⟨wd.heap.size, 0, none⟩) [⟨ii, pp, nn, dd, []⟩]) := Lib.hid (node_lit wd ⟨ii, pp, nn, dd, []⟩ _ rfl)
          refine hK _ _ ((Below.refl _ _).alloc HB.out.size _) ?_
          replace HB : Hid (Below wd.heap.size wd ((wd).alloc (.cells #[.int .i64 ii, .int .i64 pp, .string (bstr nn), .bool dd, .string { data := #[] }] 52))) := Lib.hid (HB.out.alloc HB.out.size _)
          clear hK K
          try simp only [Act.put, List.setIfInBounds_toArray, List.set_cons_zero, List.set_cons_succ]
          refine Sched.walk_one (by rfl) (fun K hK => ?_)
          go_simp
          have HO : Hid (OwnN ((((wd).alloc (.cells #[.int .i64 ii, .int .i64 pp, .string (bstr nn), .bool dd, .string { data := #[] }] 52))).alloc (.cells #[] 52)) wd.heap.size (some ⟨(wd.heap.size + 1), 0, none⟩) 0 []) := by
            have h := OwnN.empty (B := wd.heap.size) ((wd).alloc (.cells #[.int .i64 ii, .int .i64 pp, .string (bstr nn), .bool dd, .string { data := #[] }] 52)) HB.out.size
            rw [show (((wd).alloc (.cells #[.int .i64 ii, .int .i64 pp, .string (bstr nn), .bool dd, .string { data := #[] }] 52))).heap.size = (wd.heap.size + 1) from (by simp)] at h
            exact Lib.hid h
          replace HL := Lib.hid (HL.out.below ((Below.refl _ _).alloc (Nat.le_refl _) (.cells #[] 52)))
          refine hK _ _ ((Below.refl _ _).alloc HB.out.size _) ?_
          replace HB : Hid (Below wd.heap.size wd ((((wd).alloc (.cells #[.int .i64 ii, .int .i64 pp, .string (bstr nn), .bool dd, .string { data := #[] }] 52))).alloc (.cells #[] 52))) := Lib.hid (HB.out.alloc HB.out.size _)
          clear hK K
          try simp only [Act.put, List.setIfInBounds_toArray, List.set_cons_zero, List.set_cons_succ]
          refine Sched.walk_one (by rfl) (fun K hK => ?_)
          refine wp_nodes_lies (.tmp 82) (.tmp 85) rfl HO.out HB.out.size c (HM1.out _ (HWR.out.below HB.out)) (by have := HLEN.out; simp; omega) rfl rfl ?_
          intro A1 c1 y1 hown hb hlies
          replace HL := Lib.hid (hlies _ _ (by simp <;> omega) (fun b e => by injection e with e; subst e; simp) HL.out)
          refine hK _ _ hb ?_
          replace HB : Hid (Below wd.heap.size wd y1) := Lib.hid (HB.out.trans hb)
          replace HO := Lib.hid hown
          clear hK K hown hb hlies
          try simp only [Act.put, List.setIfInBounds_toArray, List.set_cons_zero, List.set_cons_succ]
          refine Sched.walk_one (by rfl) (fun K hK => ?_)
          refine wp_nodes_lies (.tmp 86) (.tmp 88) rfl HO.out HB.out.size 1 HL.out (by have := HLEN.out; simp; omega) rfl rfl ?_
          intro A2 c2 y2 hown hb hlies
          refine hK _ _ hb ?_
          replace HB : Hid (Below wd.heap.size wd y2) := Lib.hid (HB.out.trans hb)
          replace HO := Lib.hid hown
          clear hK K hown hb hlies
          try simp only [Act.put, List.setIfInBounds_toArray, List.set_cons_zero, List.set_cons_succ]
          refine Sched.walk_one (by rfl) (fun K hK => ?_)
          refine wp_nodes_lies (.tmp 89) (.tmp 92) rfl HO.out HB.out.size (c - k) (HM2.out _ (HWR.out.below HB.out)) (by have := HLEN.out; simp; omega) rfl rfl ?_
          intro A3 c3 y3 hown hb hlies
          refine hK _ _ hb ?_
          replace HB : Hid (Below wd.heap.size wd y3) := Lib.hid (HB.out.trans hb)
          replace HO := Lib.hid hown
          clear hK K hown hb hlies
          try simp only [Act.put, List.setIfInBounds_toArray, List.set_cons_zero, List.set_cons_succ]
          repeat (first | (refine Sched.walk_quiet (by rfl) (fun K hK => ?_); go_big_quiet_op; refine hK _ ?_; clear hK K) | (refine Sched.walk_skip_quiet (by rfl) ?_; simp only [Act.put, List.setIfInBounds_toArray, List.set_cons_zero, List.set_cons_succ]))
          refine Sched.walk_done ?_
          go_wp2
          go_ret2
          have hbel : Below w1.heap.size w1 y3 := HBD.out.trans (HB.out.mono HBD.out.size)
          rw [HR.out]
          exact ⟨⟨_, _, rfl, HO.out.nodes⟩, HB1.out.trans (hbel.mono (by omega))⟩

end Go.Proofs.YtmedaimndaaiiaaGreat

/- The document's own Do, over nodes: all its ways together. Conditions: no more than 2^20 nodes, nodes and acts that may be, texts of no more than 2^30 bytes. -/
namespace Go.Proofs.YtmedaimndaaiiaaGreat
open Go.RowKit Go.Deep

theorem refNDo_any (A : Option Addr) (c : Nat) (l : List NodeV) (a : ActV) (hl : l.length ≤ 1048576) (hg : ∀ y ∈ l, y.Good) (ht : ∀ y ∈ l, y.text.length ≤ 1073741824) (hnb : ∀ x ∈ a.name, x < 256) (hnl : a.name.length ≤ maxLen) (hol : a.ops.length ≤ maxLen) (hof : Fine1 a.ops) (hot : tlen a.ops ≤ 1073741824) (w : World) (hop : CompsAt w a.opsA a.ops) (hC : NodesC w A c l) :
    Calls Tryz.prog 54 #[.slice A l.length c, .agg (actCells a).toArray] w fun e w' => NDo w' (rDo l a) e ∧ Below w.heap.size w w' := by
  by_cases k1 : a.kind = 1
  · by_cases h : IdOk a.id ∧ IsName a.name
    · cases hf : rFind l a.id with
      | some q => exact refNDo_create_no A c l a hl hg hnb hnl k1 (fun _ _ h => absurd (hf ▸ h) (by simp)) w hC
      | none =>
        by_cases hp : rPlace l a.parent a.name 0 = 0
        · by_cases hn : l.length < 100
          · exact refNDo_create A c l a hl hg hnb hnl k1 h.1 h.2 hf hp hn w hC
          · exact refNDo_create_no A c l a hl hg hnb hnl k1 (fun _ _ _ _ => by omega) w hC
        · exact refNDo_create_no A c l a hl hg hnb hnl k1 (fun _ _ _ h => absurd h hp) w hC
    · exact refNDo_create_no A c l a hl hg hnb hnl k1 (fun h1 h2 _ _ => absurd ⟨h1, h2⟩ h) w hC
  by_cases k2 : a.kind = 2
  · cases hf : rFind l a.id with
    | some q => exact refNDo_remove A c l a hl k2 hf (rFind_some hf).1 w hC
    | none => exact refNDo_none A c l a hl (.inl k2) (fun q h => by rw [hf] at h; cases h) w hC
  by_cases k3 : a.kind = 3
  · by_cases h : IsName a.name
    · cases hf : rFind l a.id with
      | none => exact refNDo_move_no A c l a hl hg hnb hnl k3 (fun _ h => absurd hf h) w hC
      | some q =>
        by_cases hp : rPlace l a.parent a.name a.id = 0
        · exact refNDo_move A c l a hl hg hnb hnl k3 h hf (rFind_some hf).1 hp w hC
        · exact refNDo_move_no A c l a hl hg hnb hnl k3 (fun _ _ => hp) w hC
    · exact refNDo_move_no A c l a hl hg hnb hnl k3 (fun h1 => absurd h1 h) w hC
  by_cases k4 : a.kind = 4
  · cases hf : rFind l a.id with
    | some q => exact refNDo_edit A c l a hl hg ht k4 hf (rFind_some hf).1 hol hof hot w hop hC
    | none => exact refNDo_none A c l a hl (.inr k4) (fun q h => by rw [hf] at h; cases h) w hC
  exact refNDo_other A c l a hl k1 k2 k3 k4 w hC
end Go.Proofs.YtmedaimndaaiiaaGreat

/- The document's own SameNodes: two lists of nodes. Condition: no slice is longer than memory. -/
namespace Go.Proofs.YtmedaimndaaiiaaGreat
open Go.RowKit Go.Deep

set_option maxHeartbeats 4000000 in
set_option maxRecDepth 100000 in
theorem refSameN_any (A B : Option Addr) (ca cb : Nat) (l m : List NodeV) (hl : l.length ≤ maxLen) (hm : m.length ≤ maxLen) (hgl : ∀ y ∈ l, y.Good) (hgm : ∀ y ∈ m, y.Good) (w : World) (hA : NodesAt w A l) (hB : NodesAt w B m) :
    Calls Tryz.prog 23 #[.slice A l.length ca, .slice B m.length cb] w fun e w' => e = .returned (.bool (sameN l m)) ∧ Below w.heap.size w w' := by
  unfold maxLen at hl hm
  have HA := Lib.hid hA; clear hA
  have HB := Lib.hid hB; clear hB
  have HGL := Lib.hid hgl; clear hgl
  have HGM := Lib.hid hgm; clear hgm
  obtain ⟨T, HT⟩ : ∃ T, Hid (sameN l m = T) := ⟨_, Lib.hid rfl⟩
  rw [HT.out]
  by_cases hlen : l.length = m.length
  · rw [← hlen]
    have HLEN := Lib.hid hlen
    clear hlen
    go_enter Tryz.func23, Tryz.ntmps23
    go_wp2
    go_loopw [5] (fun i wr => ∃ k : Nat, k ≤ l.length ∧ i = .int .i64 k ∧ l.take k = m.take k ∧ Below w.heap.size w wr) (fun i _ => l.length - (intOf i).toNat)
    case atStart => exact ⟨0, Nat.zero_le _, rfl, rfl, Below.refl _ _⟩
    case round =>
      obtain ⟨k, hk, rfl, htk, hbel⟩ := hrel
      have HBEL := Lib.hid hbel; clear hbel
      have HTK := Lib.hid htk; clear htk
      by_cases hlt : k < l.length
      · have hlt2 : k < m.length := by have := HLEN.out; omega
        obtain ⟨b1, o1, rfl, _⟩ := HA.out.form (by omega)
        obtain ⟨b2, o2, rfl, _⟩ := HB.out.form (by omega)
        obtain ⟨x0, x1, x2, x3, x4⟩ := (HA.out.below HBEL.out).at_ hlt
        obtain ⟨y0, y1, y2, y3, y4⟩ := (HB.out.below HBEL.out).at_ hlt2
        have HYES : Hid (l[k] = m[k] → l.take (k + 1) = m.take (k + 1)) := fun h => by rw [List.take_succ_eq_append_getElem hlt, List.take_succ_eq_append_getElem hlt2, HTK.out, h]
        have HNO : Hid (l[k] ≠ m[k] → T = false) := fun h => by rw [← HT.out]; exact sameN_no fun e => h (by subst e; rfl)
        have HG1 := Lib.hid (HGL.out l[k] (List.getElem_mem hlt))
        have HG2 := Lib.hid (HGM.out m[k] (List.getElem_mem hlt2))
        generalize l[k] = c at x0 x1 x2 x3 x4 HYES HNO HG1
        generalize m[k] = d at y0 y1 y2 y3 y4 HYES HNO HG2
        clear hlt2
        obtain ⟨i1, p1, n1, d1, t1⟩ := c
        obtain ⟨i2, p2, n2, d2, t2⟩ := d
        simp only at x0 x1 x2 x3 x4 y0 y1 y2 y3 y4
        by_cases e0 : i1 = i2
        · subst e0
          by_cases e1 : p1 = p2
          · subst e1
            by_cases e2 : n1 = n2
            · subst e2
              by_cases e3 : d1 = d2
              · subst e3
                by_cases e4 : t1 = t2
                · subst e4
                  go_wp2_with fail
                  go_region
                  go_wp2
                  go_roundw
                  case rel => exact ⟨k + 1, by omega, by go_num, HYES.out trivial, HBEL.out.drew⟩
                  case measure => simp [intOf]; omega
                · have HF : Hid (T = false) := HNO.out fun h => e4 (by injection h)
                  have g2 : ((bstr t1).toList == (bstr t2).toList) = false := bstr_neq fun h => e4 (bstr_inj _ _ HG1.out.2.2.2.1 HG2.out.2.2.2.1 h)
                  have g2' : ((bstr t1).toList != (bstr t2).toList) = true := by rw [bne, g2]; rfl
                  clear e4
                  go_wp2_with fail
                  go_region
                  go_wp2
                  go_ret
                  exact ⟨by rw [HF.out]; rfl, HBEL.out.drew⟩
              · have HF : Hid (T = false) := HNO.out fun h => e3 (by injection h)
                cases d1
                · cases d2
                  · exact absurd rfl e3
                  · clear e3
                    go_wp2_with fail
                    go_region
                    go_wp2
                    go_ret
                    exact ⟨by rw [HF.out]; rfl, HBEL.out.drew⟩
                · cases d2
                  · clear e3
                    go_wp2_with fail
                    go_region
                    go_wp2
                    go_ret
                    exact ⟨by rw [HF.out]; rfl, HBEL.out.drew⟩
                  · exact absurd rfl e3
            · have HF : Hid (T = false) := HNO.out fun h => e2 (by injection h)
              have g2 : ((bstr n1).toList == (bstr n2).toList) = false := bstr_neq fun h => e2 (bstr_inj _ _ HG1.out.2.2.1.1 HG2.out.2.2.1.1 h)
              have g2' : ((bstr n1).toList != (bstr n2).toList) = true := by rw [bne, g2]; rfl
              clear e2
              go_wp2_with fail
              go_region
              go_wp2
              go_ret
              exact ⟨by rw [HF.out]; rfl, HBEL.out.drew⟩
          · have HF : Hid (T = false) := HNO.out fun h => e1 (by injection h)
            have g1 : (p1 == p2) = false := beq_eq_false_iff_ne.2 e1
            have g1' : (p1 != p2) = true := by rw [bne, g1]; rfl
            clear e1
            go_wp2_with fail
            go_region
            go_wp2
            go_ret
            exact ⟨by rw [HF.out]; rfl, HBEL.out.drew⟩
        · have HF : Hid (T = false) := HNO.out fun h => e0 (by injection h)
          have g1 : (i1 == i2) = false := beq_eq_false_iff_ne.2 e0
          have g1' : (i1 != i2) = true := by rw [bne, g1]; rfl
          clear e0
          go_wp2_with fail
          go_region
          go_wp2
          go_ret
          exact ⟨by rw [HF.out]; rfl, HBEL.out.drew⟩
      · have HR : Hid (T = true) := by
          show T = true
          rw [← HT.out]
          refine sameN_yes ?_
          have h1 := HTK.out
          have hke : k = l.length := by omega
          have := HLEN.out
          rw [List.take_of_length_le (by omega), List.take_of_length_le (by omega)] at h1
          exact h1
        go_wp2
        go_ret
        exact ⟨by rw [HR.out]; rfl, HBEL.out⟩
  · have HF : Hid (T = false) := by
      show T = false
      rw [← HT.out]
      exact sameN_no fun h => hlen (by rw [h])
    have g1 : ((l.length : Int) != (m.length : Int)) = true := by simp; omega
    clear hlen
    go_enter Tryz.func23, Tryz.ntmps23
    go_wp2
    go_ret
    exact ⟨by rw [HF.out]; rfl, Below.refl _ _⟩
end Go.Proofs.YtmedaimndaaiiaaGreat

/- The document's own Children: IDs by their names. Conditions: no more than 2^20 nodes, nodes that may be. -/
namespace Go.Proofs.YtmedaimndaaiiaaGreat
open Go.RowKit Go.Deep
def nKid0 : Sched Nat := (.one 11 (.one 15 (.quiet 16 .done)))
def nKid1 : Sched Nat := (.one 4 nKid0)
def nKid : Sched Nat := (.quiet 1 (.quiet 2 (.quiet 3 (.quiet 5 (.quiet 6 (.quiet 7 (.quiet 8 (.quiet 9 (.quiet 12 (.quiet 13 (.quiet 14 (.two 0 (.two 4 (.one 10 nKid0) 10 nKid1) 10 (.one 0 nKid1)))))))))))))
theorem kids_le {l : List NodeV} {p : Int} {n : Nat} (h : n ≤ l.length) : (kids l p n).length ≤ n := by
  rw [kids_length h]
  exact Nat.le_trans (List.length_filter_le _ _) (by rw [List.length_take]; omega)

end Go.Proofs.YtmedaimndaaiiaaGreat
