/- The document's own Do, over nodes: a node is created. Conditions: as RefNDo's. -/
import Derived.Test.YtjpjdkdbgjipnaaDoorU32
import Derived.Test.YtjpjdkdbgjipnaaDoorU36
import Derived.Test.YtjpjdkdbgjipnaaDoorU34
import Derived.BigQuiet
namespace Go.Proofs.YtjpjdkdbgjipnaaDoor
open Go.RowKit Go.Deep
def nNew0 : Sched Nat := (.one 7 (.one 11 (.quiet 12 (.quiet 13 .done))))
def nNew1 : Sched Nat := (.one 4 nNew0)
def nNew : Sched Nat := (.quiet 1 (.quiet 2 (.quiet 3 (.quiet 5 (.quiet 8 (.quiet 9 (.quiet 10 (.two 0 (.two 4 (.one 6 nNew0) 6 nNew1) 6 (.one 0 nNew1)))))))))
set_option maxHeartbeats 2000000 in
set_option maxRecDepth 100000 in
theorem yy387 (A : Option Addr) (c : Nat) (l : List NodeV) (a : ActV) (hl : l.length ≤ 1048576) (hg : ∀ y ∈ l, y.Good) (hnb : ∀ x ∈ a.name, x < 256) (hnl : a.name.length ≤ maxLen) (hk : a.kind = 1) (hid : IdOk a.id) (hn : IsName a.name) (hf : rFind l a.id = none) (hp : rPlace l a.parent a.name 0 = 0) (h100 : l.length < 100) (w : World) (hC : NodesC w A c l) :
  Calls Tryd.prog 33 #[.slice A l.length c, .agg (yy1 a).toArray] w fun e w' => NDo w' (rDo l a) e ∧ Below w.heap.size w w' := by
 have HC := xh hC
 clear hC
 obtain ⟨w1, HW1⟩ : ∃ x', Hid (w.alloc (.cells (yy1 a).toArray 46) = x') := ⟨_, xh rfl⟩
 have hs1 : w1.heap.size = w.heap.size + 1 := by rw [← HW1.out]; simp
 have HB1 : Hid (Below w.heap.size w w1) := by
  show Below _ _ _
  rw [← HW1.out]
  exact (Below.refl _ _).alloc (Nat.le_refl _) _
 have HX : Hid (∀ (f : Nat) (v : Value), (yy1 a)[f]? = some v → w1.cell? ⟨w.heap.size, f, none⟩ = some v) := by
  intro f v hf
  rw [← HW1.out, cell_of_row _ _ _ _ _ _ (heap_alloc_new w _)]
  simpa using hf
 have HA := xh (HC.out.1.below HB1.out)
 have GF := xh (yy48 A c l a.id (by unfold maxLen; omega) w1 HA.out)
 have GN := xh (yy94 a.name hnb hnl w1)
 have GP := xh (yy119 A c l a.parent a.name 0 hl hg hnb w1 HA.out)
 obtain ⟨kk, ii, pp, nn, dd, oA, oC, oo⟩ := a
 simp only [yy1] at *
 have x0 := HX.out 0 _ rfl
 have x1 := HX.out 1 _ rfl
 have x2 := HX.out 2 _ rfl
 have x3 := HX.out 3 _ rfl
 have x4 := HX.out 4 _ rfl
 have x5 := HX.out 5 _ rfl
 obtain rfl : kk = 1 := hk
 rw [rDo_c5 rfl ⟨hid, hn⟩ hf hp (by omega)]
 have i1 : ¬ ii < 1 := by have := hid.1; omega
 have i2 : ¬ 1099511627776 < ii := by have := hid.2; omega
 rw [yy104 hn] at GN
 rw [hp] at GP
 rw [hf, show findI none = -1 from rfl] at GF
 have h100i : ¬ (100 : Int) ≤ (l.length : Int) := by omega
 clear hn hid hf hp
 have hnew : yy96 ⟨1, ii, pp, nn, dd, oA, oC, oo⟩ = ⟨ii, pp, nn, dd, []⟩ := rfl
 rw [hnew]
 have HLE := xh (rAt_le l ii)
 have HLT := xh (fun k h => @rAt_lt l ii k h)
 have HGE := xh (@rAt_ge l ii)
 simp only at HLE HLT HGE ⊢
 generalize rAt l ii = q at HLE HLT HGE ⊢
 obtain ⟨R, HR⟩ : ∃ R : List NodeV × Int, Hid (R = ((l.take q ++ [⟨ii, pp, nn, dd, []⟩]) ++ l.drop q, 0)) := ⟨_, xh rfl⟩
 rw [show (l.take q ++ (⟨ii, pp, nn, dd, []⟩ : NodeV) :: l.drop q, (0 : Int)) = R from by rw [HR.out]; simp]
 go_enter Tryd.func33, Tryd.ntmps33
 go_wp2_with fail
 try rw [HW1.out]
 refine (GF.out).mono ?_
 rintro e v ⟨rfl, rfl⟩
 go_wp2_with fail
 try rw [HW1.out]
 refine (GN.out).mono ?_
 rintro e v ⟨rfl, rfl⟩
 go_wp2_with fail
 try rw [HW1.out]
 refine (GP.out).mono ?_
 rintro e v ⟨rfl, rfl⟩
 go_wp2
 go_loopw [8] (fun i wr => ∃ k : Nat, k ≤ q ∧ i = .int .i64 (k : Int) ∧ Below w1.heap.size w1 wr) (fun i _ => q - (intOf i).toNat)
 case atStart => exact ⟨0, Nat.zero_le _, rfl, Below.refl _ _⟩
 case round =>
  obtain ⟨k, hk, rfl, hbel⟩ := hrel
  have HBEL := xh hbel; clear hbel
  have y1 := (HBEL.out.cell (World.block_lt_of_cell? _ _ x1)).trans x1
  by_cases hlt : k < q
  ·obtain ⟨hkl, hyl⟩ := HLT.out k hlt
   obtain ⟨b, off, rfl, _⟩ := HA.out.form (by omega)
   have z0 := (HBEL.out.cell (World.block_lt_of_cell? _ _ (HA.out.at_ hkl).1)).trans (HA.out.at_ hkl).1
   have hki : (k : Int) < (l.length : Int) := by omega
   generalize l[k].id = y at z0 hyl
   go_wp2
   go_quiet (fail)
   go_wp2
   go_roundw
   case rel => exact ⟨k + 1, by omega, by go_num, below_drewN HBEL.out _⟩
   case measure => simp [intOf]; omega
  ·have hkq : k = q := by omega
   subst hkq
   have y2 := (HBEL.out.cell (World.block_lt_of_cell? _ _ x2)).trans x2
   have y3 := (HBEL.out.cell (World.block_lt_of_cell? _ _ x3)).trans x3
   have y4 := (HBEL.out.cell (World.block_lt_of_cell? _ _ x4)).trans x4
   have hc := HC.out.2
   have hle := HLE.out
   have hl1 : (l.take k).length = k := by simp; omega
   have hl2 : (l.drop k).length = l.length - k := by simp
   have cut1 : ∀ w : World, (Instr.slice 22 (.slice A l.length c) none (some (.int .i64 (k : Int))) none).run Tryd.prog w = .ok (.slice (nHigh A c) (l.take k).length c) w := fun w => by
    rw [hl1]
    exact yy489 A l.length c k (by omega) w
   have cut2 : ∀ w : World, (Instr.slice 22 (.slice A l.length c) (some (.int .i64 (k : Int))) none none).run Tryd.prog w = .ok (.slice (nLow A k c) (l.drop k).length (c - k)) w := fun w => by
    rw [hl2]
    exact yy607 A l.length c k (by omega) w
   have HM1 : Hid (∀ v : World, yy14 v A l → yy14 v (nHigh A c) (l.take k)) := fun v h => h.high c k
   have HM2 : Hid (∀ v : World, yy14 v A l → yy14 v (nLow A k c) (l.drop k)) := fun v h => h.low c k hc
   have HLEN : Hid ((l.take k).length + (l.drop k).length ≤ 1048576) := by show _ ≤ _; rw [hl1, hl2]; omega
   clear hl1 hl2
   generalize l.take k = m1 at HM1 cut1 HR HLEN
   generalize l.drop k = m2 at HM2 cut2 HR HLEN
   generalize nHigh A c = A1 at HM1 cut1
   generalize nLow A k c = A2 at HM2 cut2
   clear hc hle
   by_cases hkl : k < l.length
   ·obtain ⟨b, off, rfl, _⟩ := HA.out.form (by omega)
    have z0 := (HBEL.out.cell (World.block_lt_of_cell? _ _ (HA.out.at_ hkl).1)).trans (HA.out.at_ hkl).1
    have hki : (k : Int) < (l.length : Int) := by omega
    have hyl := HGE.out hkl
    generalize l[k].id = y at z0 hyl
    go_wp2
    go_quiet (fail)
    have y1' : (wr.drewN nq).cell? ⟨w.heap.size, 1, none⟩ = some (.int .i64 ii) := y1
    have y2' : (wr.drewN nq).cell? ⟨w.heap.size, 2, none⟩ = some (.int .i64 pp) := y2
    have y3' : (wr.drewN nq).cell? ⟨w.heap.size, 3, none⟩ = some (.string (bstr nn)) := y3
    have y4' : (wr.drewN nq).cell? ⟨w.heap.size, 4, none⟩ = some (.bool dd) := y4
    have HBQ : Hid (Below w1.heap.size w1 (wr.drewN nq)) := below_drewN HBEL.out nq
    generalize wr.drewN nq = wq at y1' y2' y3' y4' HBQ ⊢
    go_wp2
    obtain ⟨wn, HWN⟩ : ∃ x, Hid (wq.alloc (.cells #[.int .i64 ii, .int .i64 pp, .string (bstr nn), .bool dd, .string { data := #[] }] 44) = x) := ⟨_, xh rfl⟩
    rw [HWN.out]
    have HNC : Hid (∀ (f : Nat) (v : Value), #[.int .i64 ii, .int .i64 pp, .string (bstr nn), .bool dd, .string { data := #[] }][f]? = some v → wn.drew.cell? ⟨wq.heap.size, f, none⟩ = some v) := by
     intro f v hf
     show wn.cell? _ = _
     rw [← HWN.out, cell_of_row _ _ _ _ _ _ (heap_alloc_new wq _)]
     exact hf
    have HBD : Hid (Below w1.heap.size w1 wn.drew) := by
     show Below _ _ _
     rw [← HWN.out]
     exact (HBQ.out.alloc HBQ.out.size _).drew
    have hsn : wq.heap.size < wn.drew.heap.size := by
     show wq.heap.size < wn.heap.size
     rw [← HWN.out]
     simp
    have HWR := xh (HA.out.below HBD.out)
    refine Sched.yy694 (some wn.heap.size) nNew (by kernel_rfl) (by kernel_rfl) (fun _ _ d _ _ h => by cases d <;> exact h) ?_
    simp only [nNew, nNew1, nNew0, Sched.picked, List.getElem?_cons_succ, List.getElem?_cons_zero, Option.getD_some]
    have hsd : wn.heap.size = wn.drew.heap.size := rfl
    rw [hsd]
    generalize wn.drew = wd at HNC HBD HWR hsn ⊢
    have n0 := fun e : ExtB (some wd.heap.size) wd => (e.property.cell (p := ⟨wq.heap.size, 0, none⟩) hsn).trans (HNC.out 0 _ rfl)
    have n1 := fun e : ExtB (some wd.heap.size) wd => (e.property.cell (p := ⟨wq.heap.size, 1, none⟩) hsn).trans (HNC.out 1 _ rfl)
    have n2 := fun e : ExtB (some wd.heap.size) wd => (e.property.cell (p := ⟨wq.heap.size, 2, none⟩) hsn).trans (HNC.out 2 _ rfl)
    have n3 := fun e : ExtB (some wd.heap.size) wd => (e.property.cell (p := ⟨wq.heap.size, 3, none⟩) hsn).trans (HNC.out 3 _ rfl)
    have n4 := fun e : ExtB (some wd.heap.size) wd => (e.property.cell (p := ⟨wq.heap.size, 4, none⟩) hsn).trans (HNC.out 4 _ rfl)
    repeat (first | (refine Sched.yy857 (by rfl) (fun K hK => ?_); go_big_quiet_op; refine hK _ ?_; clear hK K) | (refine Sched.yy671 (by rfl) ?_; simp only [Act.put, xsa, xsz, xss]))
    clear n0 n1 n2 n3 n4
    have HB : Hid (Below wd.heap.size wd wd) := xh (Below.refl _ _)
    refine Sched.walk_two ?_ ?_
    ·refine Sched.walk_one (by rfl) (fun K hK => ?_)
     go_simp
     have HO : Hid (OwnN ((wd).alloc (.cells #[] 44)) wd.heap.size (some ⟨wd.heap.size, 0, none⟩) 0 []) := by
      have h := OwnN.empty (B := wd.heap.size) wd HB.out.size
      rw [show (wd).heap.size = wd.heap.size from rfl] at h
      exact xh h
     refine hK _ _ ((Below.refl _ _).alloc HB.out.size _) ?_
     replace HB : Hid (Below wd.heap.size wd ((wd).alloc (.cells #[] 44))) := xh (HB.out.alloc HB.out.size _)
     clear hK K
     try simp only [Act.put, xsa, xsz, xss]
     refine Sched.walk_two ?_ ?_
     ·refine Sched.walk_one (by rfl) (fun K hK => ?_)
      refine yy19 (.tmp 82) (.tmp 85) rfl HO.out HB.out.size c (HM1.out _ (HWR.out.below HB.out)) (by have := HLEN.out; simp; omega) rfl rfl ?_
      intro A1 c1 y1 hown hb hlies
      refine hK _ _ hb ?_
      replace HB : Hid (Below wd.heap.size wd y1) := xh (HB.out.trans hb)
      replace HO := xh hown
      clear hK K hown hb hlies
      try simp only [Act.put, xsa, xsz, xss]
      refine Sched.walk_one (by rfl) (fun K hK => ?_)
      go_simp
      have HL : Hid (yy14 ((y1).alloc (.cells #[.int .i64 ii, .int .i64 pp, .string (bstr nn), .bool dd, .string { data := #[] }] 44)) (some ⟨y1.heap.size, 0, none⟩) [⟨ii, pp, nn, dd, []⟩]) := xh (yy122 y1 ⟨ii, pp, nn, dd, []⟩ _ rfl)
      replace HO := xh (HO.out.alloc (.cells #[.int .i64 ii, .int .i64 pp, .string (bstr nn), .bool dd, .string { data := #[] }] 44))
      refine hK _ _ ((Below.refl _ _).alloc HB.out.size _) ?_
      replace HB : Hid (Below wd.heap.size wd ((y1).alloc (.cells #[.int .i64 ii, .int .i64 pp, .string (bstr nn), .bool dd, .string { data := #[] }] 44))) := xh (HB.out.alloc HB.out.size _)
      clear hK K
      try simp only [Act.put, xsa, xsz, xss]
      refine Sched.walk_one (by rfl) (fun K hK => ?_)
      refine yy19 (.tmp 86) (.tmp 88) rfl HO.out HB.out.size 1 HL.out (by have := HLEN.out; simp; omega) rfl rfl ?_
      intro A2 c2 y2 hown hb hlies
      refine hK _ _ hb ?_
      replace HB : Hid (Below wd.heap.size wd y2) := xh (HB.out.trans hb)
      replace HO := xh hown
      clear hK K hown hb hlies
      try simp only [Act.put, xsa, xsz, xss]
      refine Sched.walk_one (by rfl) (fun K hK => ?_)
      refine yy19 (.tmp 89) (.tmp 92) rfl HO.out HB.out.size (c - k) (HM2.out _ (HWR.out.below HB.out)) (by have := HLEN.out; simp; omega) rfl rfl ?_
      intro A3 c3 y3 hown hb hlies
      refine hK _ _ hb ?_
      replace HB : Hid (Below wd.heap.size wd y3) := xh (HB.out.trans hb)
      replace HO := xh hown
      clear hK K hown hb hlies
      try simp only [Act.put, xsa, xsz, xss]
      repeat (first | (refine Sched.yy857 (by rfl) (fun K hK => ?_); go_big_quiet_op; refine hK _ ?_; clear hK K) | (refine Sched.yy671 (by rfl) ?_; simp only [Act.put, xsa, xsz, xss]))
      refine Sched.walk_done ?_
      go_wp2
      go_ret2
      have hbel : Below w1.heap.size w1 y3 := HBD.out.trans (HB.out.mono HBD.out.size)
      rw [HR.out]
      exact ⟨⟨_, _, rfl, HO.out.nodes⟩, HB1.out.trans (hbel.mono (by omega))⟩
     ·refine Sched.walk_one (by rfl) (fun K hK => ?_)
      go_simp
      have HL : Hid (yy14 ((((wd).alloc (.cells #[] 44))).alloc (.cells #[.int .i64 ii, .int .i64 pp, .string (bstr nn), .bool dd, .string { data := #[] }] 44)) (some ⟨(wd.heap.size + 1), 0, none⟩) [⟨ii, pp, nn, dd, []⟩]) := xh (yy122 ((wd).alloc (.cells #[] 44)) ⟨ii, pp, nn, dd, []⟩ _ (by simp))
      replace HO := xh (HO.out.alloc (.cells #[.int .i64 ii, .int .i64 pp, .string (bstr nn), .bool dd, .string { data := #[] }] 44))
      refine hK _ _ ((Below.refl _ _).alloc HB.out.size _) ?_
      replace HB : Hid (Below wd.heap.size wd ((((wd).alloc (.cells #[] 44))).alloc (.cells #[.int .i64 ii, .int .i64 pp, .string (bstr nn), .bool dd, .string { data := #[] }] 44))) := xh (HB.out.alloc HB.out.size _)
      clear hK K
      try simp only [Act.put, xsa, xsz, xss]
      refine Sched.walk_one (by rfl) (fun K hK => ?_)
      refine yy19 (.tmp 82) (.tmp 85) rfl HO.out HB.out.size c (HM1.out _ (HWR.out.below HB.out)) (by have := HLEN.out; simp; omega) rfl rfl ?_
      intro A1 c1 y1 hown hb hlies
      replace HL := xh (hlies _ _ (by simp <;> omega) (fun b e => by injection e with e; subst e; simp) HL.out)
      refine hK _ _ hb ?_
      replace HB : Hid (Below wd.heap.size wd y1) := xh (HB.out.trans hb)
      replace HO := xh hown
      clear hK K hown hb hlies
      try simp only [Act.put, xsa, xsz, xss]
      refine Sched.walk_one (by rfl) (fun K hK => ?_)
      refine yy19 (.tmp 86) (.tmp 88) rfl HO.out HB.out.size 1 HL.out (by have := HLEN.out; simp; omega) rfl rfl ?_
      intro A2 c2 y2 hown hb hlies
      refine hK _ _ hb ?_
      replace HB : Hid (Below wd.heap.size wd y2) := xh (HB.out.trans hb)
      replace HO := xh hown
      clear hK K hown hb hlies
      try simp only [Act.put, xsa, xsz, xss]
      refine Sched.walk_one (by rfl) (fun K hK => ?_)
      refine yy19 (.tmp 89) (.tmp 92) rfl HO.out HB.out.size (c - k) (HM2.out _ (HWR.out.below HB.out)) (by have := HLEN.out; simp; omega) rfl rfl ?_
      intro A3 c3 y3 hown hb hlies
      refine hK _ _ hb ?_
      replace HB : Hid (Below wd.heap.size wd y3) := xh (HB.out.trans hb)
      replace HO := xh hown
      clear hK K hown hb hlies
      try simp only [Act.put, xsa, xsz, xss]
      repeat (first | (refine Sched.yy857 (by rfl) (fun K hK => ?_); go_big_quiet_op; refine hK _ ?_; clear hK K) | (refine Sched.yy671 (by rfl) ?_; simp only [Act.put, xsa, xsz, xss]))
      refine Sched.walk_done ?_
      go_wp2
      go_ret2
      have hbel : Below w1.heap.size w1 y3 := HBD.out.trans (HB.out.mono HBD.out.size)
      rw [HR.out]
      exact ⟨⟨_, _, rfl, HO.out.nodes⟩, HB1.out.trans (hbel.mono (by omega))⟩
    ·refine Sched.walk_one (by rfl) (fun K hK => ?_)
     go_simp
     have HL : Hid (yy14 ((wd).alloc (.cells #[.int .i64 ii, .int .i64 pp, .string (bstr nn), .bool dd, .string { data := #[] }] 44)) (some ⟨wd.heap.size, 0, none⟩) [⟨ii, pp, nn, dd, []⟩]) := xh (yy122 wd ⟨ii, pp, nn, dd, []⟩ _ rfl)
     refine hK _ _ ((Below.refl _ _).alloc HB.out.size _) ?_
     replace HB : Hid (Below wd.heap.size wd ((wd).alloc (.cells #[.int .i64 ii, .int .i64 pp, .string (bstr nn), .bool dd, .string { data := #[] }] 44))) := xh (HB.out.alloc HB.out.size _)
     clear hK K
     try simp only [Act.put, xsa, xsz, xss]
     refine Sched.walk_one (by rfl) (fun K hK => ?_)
     go_simp
     have HO : Hid (OwnN ((((wd).alloc (.cells #[.int .i64 ii, .int .i64 pp, .string (bstr nn), .bool dd, .string { data := #[] }] 44))).alloc (.cells #[] 44)) wd.heap.size (some ⟨(wd.heap.size + 1), 0, none⟩) 0 []) := by
      have h := OwnN.empty (B := wd.heap.size) ((wd).alloc (.cells #[.int .i64 ii, .int .i64 pp, .string (bstr nn), .bool dd, .string { data := #[] }] 44)) HB.out.size
      rw [show (((wd).alloc (.cells #[.int .i64 ii, .int .i64 pp, .string (bstr nn), .bool dd, .string { data := #[] }] 44))).heap.size = (wd.heap.size + 1) from (by simp)] at h
      exact xh h
     replace HL := xh (HL.out.below ((Below.refl _ _).alloc (Nat.le_refl _) (.cells #[] 44)))
     refine hK _ _ ((Below.refl _ _).alloc HB.out.size _) ?_
     replace HB : Hid (Below wd.heap.size wd ((((wd).alloc (.cells #[.int .i64 ii, .int .i64 pp, .string (bstr nn), .bool dd, .string { data := #[] }] 44))).alloc (.cells #[] 44))) := xh (HB.out.alloc HB.out.size _)
     clear hK K
     try simp only [Act.put, xsa, xsz, xss]
     refine Sched.walk_one (by rfl) (fun K hK => ?_)
     refine yy19 (.tmp 82) (.tmp 85) rfl HO.out HB.out.size c (HM1.out _ (HWR.out.below HB.out)) (by have := HLEN.out; simp; omega) rfl rfl ?_
     intro A1 c1 y1 hown hb hlies
     replace HL := xh (hlies _ _ (by simp <;> omega) (fun b e => by injection e with e; subst e; simp) HL.out)
     refine hK _ _ hb ?_
     replace HB : Hid (Below wd.heap.size wd y1) := xh (HB.out.trans hb)
     replace HO := xh hown
     clear hK K hown hb hlies
     try simp only [Act.put, xsa, xsz, xss]
     refine Sched.walk_one (by rfl) (fun K hK => ?_)
     refine yy19 (.tmp 86) (.tmp 88) rfl HO.out HB.out.size 1 HL.out (by have := HLEN.out; simp; omega) rfl rfl ?_
     intro A2 c2 y2 hown hb hlies
     refine hK _ _ hb ?_
     replace HB : Hid (Below wd.heap.size wd y2) := xh (HB.out.trans hb)
     replace HO := xh hown
     clear hK K hown hb hlies
     try simp only [Act.put, xsa, xsz, xss]
     refine Sched.walk_one (by rfl) (fun K hK => ?_)
     refine yy19 (.tmp 89) (.tmp 92) rfl HO.out HB.out.size (c - k) (HM2.out _ (HWR.out.below HB.out)) (by have := HLEN.out; simp; omega) rfl rfl ?_
     intro A3 c3 y3 hown hb hlies
     refine hK _ _ hb ?_
     replace HB : Hid (Below wd.heap.size wd y3) := xh (HB.out.trans hb)
     replace HO := xh hown
     clear hK K hown hb hlies
     try simp only [Act.put, xsa, xsz, xss]
     repeat (first | (refine Sched.yy857 (by rfl) (fun K hK => ?_); go_big_quiet_op; refine hK _ ?_; clear hK K) | (refine Sched.yy671 (by rfl) ?_; simp only [Act.put, xsa, xsz, xss]))
     refine Sched.walk_done ?_
     go_wp2
     go_ret2
     have hbel : Below w1.heap.size w1 y3 := HBD.out.trans (HB.out.mono HBD.out.size)
     rw [HR.out]
     exact ⟨⟨_, _, rfl, HO.out.nodes⟩, HB1.out.trans (hbel.mono (by omega))⟩
   ·have hki : ¬ (k : Int) < (l.length : Int) := by omega
    go_wp2
    go_quiet (fail)
    have y1' : (wr.drewN nq).cell? ⟨w.heap.size, 1, none⟩ = some (.int .i64 ii) := y1
    have y2' : (wr.drewN nq).cell? ⟨w.heap.size, 2, none⟩ = some (.int .i64 pp) := y2
    have y3' : (wr.drewN nq).cell? ⟨w.heap.size, 3, none⟩ = some (.string (bstr nn)) := y3
    have y4' : (wr.drewN nq).cell? ⟨w.heap.size, 4, none⟩ = some (.bool dd) := y4
    have HBQ : Hid (Below w1.heap.size w1 (wr.drewN nq)) := below_drewN HBEL.out nq
    generalize wr.drewN nq = wq at y1' y2' y3' y4' HBQ ⊢
    go_wp2
    obtain ⟨wn, HWN⟩ : ∃ x, Hid (wq.alloc (.cells #[.int .i64 ii, .int .i64 pp, .string (bstr nn), .bool dd, .string { data := #[] }] 44) = x) := ⟨_, xh rfl⟩
    rw [HWN.out]
    have HNC : Hid (∀ (f : Nat) (v : Value), #[.int .i64 ii, .int .i64 pp, .string (bstr nn), .bool dd, .string { data := #[] }][f]? = some v → wn.drew.cell? ⟨wq.heap.size, f, none⟩ = some v) := by
     intro f v hf
     show wn.cell? _ = _
     rw [← HWN.out, cell_of_row _ _ _ _ _ _ (heap_alloc_new wq _)]
     exact hf
    have HBD : Hid (Below w1.heap.size w1 wn.drew) := by
     show Below _ _ _
     rw [← HWN.out]
     exact (HBQ.out.alloc HBQ.out.size _).drew
    have hsn : wq.heap.size < wn.drew.heap.size := by
     show wq.heap.size < wn.heap.size
     rw [← HWN.out]
     simp
    have HWR := xh (HA.out.below HBD.out)
    refine Sched.yy694 (some wn.heap.size) nNew (by kernel_rfl) (by kernel_rfl) (fun _ _ d _ _ h => by cases d <;> exact h) ?_
    simp only [nNew, nNew1, nNew0, Sched.picked, List.getElem?_cons_succ, List.getElem?_cons_zero, Option.getD_some]
    have hsd : wn.heap.size = wn.drew.heap.size := rfl
    rw [hsd]
    generalize wn.drew = wd at HNC HBD HWR hsn ⊢
    have n0 := fun e : ExtB (some wd.heap.size) wd => (e.property.cell (p := ⟨wq.heap.size, 0, none⟩) hsn).trans (HNC.out 0 _ rfl)
    have n1 := fun e : ExtB (some wd.heap.size) wd => (e.property.cell (p := ⟨wq.heap.size, 1, none⟩) hsn).trans (HNC.out 1 _ rfl)
    have n2 := fun e : ExtB (some wd.heap.size) wd => (e.property.cell (p := ⟨wq.heap.size, 2, none⟩) hsn).trans (HNC.out 2 _ rfl)
    have n3 := fun e : ExtB (some wd.heap.size) wd => (e.property.cell (p := ⟨wq.heap.size, 3, none⟩) hsn).trans (HNC.out 3 _ rfl)
    have n4 := fun e : ExtB (some wd.heap.size) wd => (e.property.cell (p := ⟨wq.heap.size, 4, none⟩) hsn).trans (HNC.out 4 _ rfl)
    repeat (first | (refine Sched.yy857 (by rfl) (fun K hK => ?_); go_big_quiet_op; refine hK _ ?_; clear hK K) | (refine Sched.yy671 (by rfl) ?_; simp only [Act.put, xsa, xsz, xss]))
    clear n0 n1 n2 n3 n4
    have HB : Hid (Below wd.heap.size wd wd) := xh (Below.refl _ _)
    refine Sched.walk_two ?_ ?_
    ·refine Sched.walk_one (by rfl) (fun K hK => ?_)
     go_simp
     have HO : Hid (OwnN ((wd).alloc (.cells #[] 44)) wd.heap.size (some ⟨wd.heap.size, 0, none⟩) 0 []) := by
      have h := OwnN.empty (B := wd.heap.size) wd HB.out.size
      rw [show (wd).heap.size = wd.heap.size from rfl] at h
      exact xh h
     refine hK _ _ ((Below.refl _ _).alloc HB.out.size _) ?_
     replace HB : Hid (Below wd.heap.size wd ((wd).alloc (.cells #[] 44))) := xh (HB.out.alloc HB.out.size _)
     clear hK K
     try simp only [Act.put, xsa, xsz, xss]
     refine Sched.walk_two ?_ ?_
     ·refine Sched.walk_one (by rfl) (fun K hK => ?_)
      refine yy19 (.tmp 82) (.tmp 85) rfl HO.out HB.out.size c (HM1.out _ (HWR.out.below HB.out)) (by have := HLEN.out; simp; omega) rfl rfl ?_
      intro A1 c1 y1 hown hb hlies
      refine hK _ _ hb ?_
      replace HB : Hid (Below wd.heap.size wd y1) := xh (HB.out.trans hb)
      replace HO := xh hown
      clear hK K hown hb hlies
      try simp only [Act.put, xsa, xsz, xss]
      refine Sched.walk_one (by rfl) (fun K hK => ?_)
      go_simp
      have HL : Hid (yy14 ((y1).alloc (.cells #[.int .i64 ii, .int .i64 pp, .string (bstr nn), .bool dd, .string { data := #[] }] 44)) (some ⟨y1.heap.size, 0, none⟩) [⟨ii, pp, nn, dd, []⟩]) := xh (yy122 y1 ⟨ii, pp, nn, dd, []⟩ _ rfl)
      replace HO := xh (HO.out.alloc (.cells #[.int .i64 ii, .int .i64 pp, .string (bstr nn), .bool dd, .string { data := #[] }] 44))
      refine hK _ _ ((Below.refl _ _).alloc HB.out.size _) ?_
      replace HB : Hid (Below wd.heap.size wd ((y1).alloc (.cells #[.int .i64 ii, .int .i64 pp, .string (bstr nn), .bool dd, .string { data := #[] }] 44))) := xh (HB.out.alloc HB.out.size _)
      clear hK K
      try simp only [Act.put, xsa, xsz, xss]
      refine Sched.walk_one (by rfl) (fun K hK => ?_)
      refine yy19 (.tmp 86) (.tmp 88) rfl HO.out HB.out.size 1 HL.out (by have := HLEN.out; simp; omega) rfl rfl ?_
      intro A2 c2 y2 hown hb hlies
      refine hK _ _ hb ?_
      replace HB : Hid (Below wd.heap.size wd y2) := xh (HB.out.trans hb)
      replace HO := xh hown
      clear hK K hown hb hlies
      try simp only [Act.put, xsa, xsz, xss]
      refine Sched.walk_one (by rfl) (fun K hK => ?_)
      refine yy19 (.tmp 89) (.tmp 92) rfl HO.out HB.out.size (c - k) (HM2.out _ (HWR.out.below HB.out)) (by have := HLEN.out; simp; omega) rfl rfl ?_
      intro A3 c3 y3 hown hb hlies
      refine hK _ _ hb ?_
      replace HB : Hid (Below wd.heap.size wd y3) := xh (HB.out.trans hb)
      replace HO := xh hown
      clear hK K hown hb hlies
      try simp only [Act.put, xsa, xsz, xss]
      repeat (first | (refine Sched.yy857 (by rfl) (fun K hK => ?_); go_big_quiet_op; refine hK _ ?_; clear hK K) | (refine Sched.yy671 (by rfl) ?_; simp only [Act.put, xsa, xsz, xss]))
      refine Sched.walk_done ?_
      go_wp2
      go_ret2
      have hbel : Below w1.heap.size w1 y3 := HBD.out.trans (HB.out.mono HBD.out.size)
      rw [HR.out]
      exact ⟨⟨_, _, rfl, HO.out.nodes⟩, HB1.out.trans (hbel.mono (by omega))⟩
     ·refine Sched.walk_one (by rfl) (fun K hK => ?_)
      go_simp
      have HL : Hid (yy14 ((((wd).alloc (.cells #[] 44))).alloc (.cells #[.int .i64 ii, .int .i64 pp, .string (bstr nn), .bool dd, .string { data := #[] }] 44)) (some ⟨(wd.heap.size + 1), 0, none⟩) [⟨ii, pp, nn, dd, []⟩]) := xh (yy122 ((wd).alloc (.cells #[] 44)) ⟨ii, pp, nn, dd, []⟩ _ (by simp))
      replace HO := xh (HO.out.alloc (.cells #[.int .i64 ii, .int .i64 pp, .string (bstr nn), .bool dd, .string { data := #[] }] 44))
      refine hK _ _ ((Below.refl _ _).alloc HB.out.size _) ?_
      replace HB : Hid (Below wd.heap.size wd ((((wd).alloc (.cells #[] 44))).alloc (.cells #[.int .i64 ii, .int .i64 pp, .string (bstr nn), .bool dd, .string { data := #[] }] 44))) := xh (HB.out.alloc HB.out.size _)
      clear hK K
      try simp only [Act.put, xsa, xsz, xss]
      refine Sched.walk_one (by rfl) (fun K hK => ?_)
      refine yy19 (.tmp 82) (.tmp 85) rfl HO.out HB.out.size c (HM1.out _ (HWR.out.below HB.out)) (by have := HLEN.out; simp; omega) rfl rfl ?_
      intro A1 c1 y1 hown hb hlies
      replace HL := xh (hlies _ _ (by simp <;> omega) (fun b e => by injection e with e; subst e; simp) HL.out)
      refine hK _ _ hb ?_
      replace HB : Hid (Below wd.heap.size wd y1) := xh (HB.out.trans hb)
      replace HO := xh hown
      clear hK K hown hb hlies
      try simp only [Act.put, xsa, xsz, xss]
      refine Sched.walk_one (by rfl) (fun K hK => ?_)
      refine yy19 (.tmp 86) (.tmp 88) rfl HO.out HB.out.size 1 HL.out (by have := HLEN.out; simp; omega) rfl rfl ?_
      intro A2 c2 y2 hown hb hlies
      refine hK _ _ hb ?_
      replace HB : Hid (Below wd.heap.size wd y2) := xh (HB.out.trans hb)
      replace HO := xh hown
      clear hK K hown hb hlies
      try simp only [Act.put, xsa, xsz, xss]
      refine Sched.walk_one (by rfl) (fun K hK => ?_)
      refine yy19 (.tmp 89) (.tmp 92) rfl HO.out HB.out.size (c - k) (HM2.out _ (HWR.out.below HB.out)) (by have := HLEN.out; simp; omega) rfl rfl ?_
      intro A3 c3 y3 hown hb hlies
      refine hK _ _ hb ?_
      replace HB : Hid (Below wd.heap.size wd y3) := xh (HB.out.trans hb)
      replace HO := xh hown
      clear hK K hown hb hlies
      try simp only [Act.put, xsa, xsz, xss]
      repeat (first | (refine Sched.yy857 (by rfl) (fun K hK => ?_); go_big_quiet_op; refine hK _ ?_; clear hK K) | (refine Sched.yy671 (by rfl) ?_; simp only [Act.put, xsa, xsz, xss]))
      refine Sched.walk_done ?_
      go_wp2
      go_ret2
      have hbel : Below w1.heap.size w1 y3 := HBD.out.trans (HB.out.mono HBD.out.size)
      rw [HR.out]
      exact ⟨⟨_, _, rfl, HO.out.nodes⟩, HB1.out.trans (hbel.mono (by omega))⟩
    ·refine Sched.walk_one (by rfl) (fun K hK => ?_)
     go_simp
     have HL : Hid (yy14 ((wd).alloc (.cells #[.int .i64 ii, .int .i64 pp, .string (bstr nn), .bool dd, .string { data := #[] }] 44)) (some ⟨wd.heap.size, 0, none⟩) [⟨ii, pp, nn, dd, []⟩]) := xh (yy122 wd ⟨ii, pp, nn, dd, []⟩ _ rfl)
     refine hK _ _ ((Below.refl _ _).alloc HB.out.size _) ?_
     replace HB : Hid (Below wd.heap.size wd ((wd).alloc (.cells #[.int .i64 ii, .int .i64 pp, .string (bstr nn), .bool dd, .string { data := #[] }] 44))) := xh (HB.out.alloc HB.out.size _)
     clear hK K
     try simp only [Act.put, xsa, xsz, xss]
     refine Sched.walk_one (by rfl) (fun K hK => ?_)
     go_simp
     have HO : Hid (OwnN ((((wd).alloc (.cells #[.int .i64 ii, .int .i64 pp, .string (bstr nn), .bool dd, .string { data := #[] }] 44))).alloc (.cells #[] 44)) wd.heap.size (some ⟨(wd.heap.size + 1), 0, none⟩) 0 []) := by
      have h := OwnN.empty (B := wd.heap.size) ((wd).alloc (.cells #[.int .i64 ii, .int .i64 pp, .string (bstr nn), .bool dd, .string { data := #[] }] 44)) HB.out.size
      rw [show (((wd).alloc (.cells #[.int .i64 ii, .int .i64 pp, .string (bstr nn), .bool dd, .string { data := #[] }] 44))).heap.size = (wd.heap.size + 1) from (by simp)] at h
      exact xh h
     replace HL := xh (HL.out.below ((Below.refl _ _).alloc (Nat.le_refl _) (.cells #[] 44)))
     refine hK _ _ ((Below.refl _ _).alloc HB.out.size _) ?_
     replace HB : Hid (Below wd.heap.size wd ((((wd).alloc (.cells #[.int .i64 ii, .int .i64 pp, .string (bstr nn), .bool dd, .string { data := #[] }] 44))).alloc (.cells #[] 44))) := xh (HB.out.alloc HB.out.size _)
     clear hK K
     try simp only [Act.put, xsa, xsz, xss]
     refine Sched.walk_one (by rfl) (fun K hK => ?_)
     refine yy19 (.tmp 82) (.tmp 85) rfl HO.out HB.out.size c (HM1.out _ (HWR.out.below HB.out)) (by have := HLEN.out; simp; omega) rfl rfl ?_
     intro A1 c1 y1 hown hb hlies
     replace HL := xh (hlies _ _ (by simp <;> omega) (fun b e => by injection e with e; subst e; simp) HL.out)
     refine hK _ _ hb ?_
     replace HB : Hid (Below wd.heap.size wd y1) := xh (HB.out.trans hb)
     replace HO := xh hown
     clear hK K hown hb hlies
     try simp only [Act.put, xsa, xsz, xss]
     refine Sched.walk_one (by rfl) (fun K hK => ?_)
     refine yy19 (.tmp 86) (.tmp 88) rfl HO.out HB.out.size 1 HL.out (by have := HLEN.out; simp; omega) rfl rfl ?_
     intro A2 c2 y2 hown hb hlies
     refine hK _ _ hb ?_
     replace HB : Hid (Below wd.heap.size wd y2) := xh (HB.out.trans hb)
     replace HO := xh hown
     clear hK K hown hb hlies
     try simp only [Act.put, xsa, xsz, xss]
     refine Sched.walk_one (by rfl) (fun K hK => ?_)
     refine yy19 (.tmp 89) (.tmp 92) rfl HO.out HB.out.size (c - k) (HM2.out _ (HWR.out.below HB.out)) (by have := HLEN.out; simp; omega) rfl rfl ?_
     intro A3 c3 y3 hown hb hlies
     refine hK _ _ hb ?_
     replace HB : Hid (Below wd.heap.size wd y3) := xh (HB.out.trans hb)
     replace HO := xh hown
     clear hK K hown hb hlies
     try simp only [Act.put, xsa, xsz, xss]
     repeat (first | (refine Sched.yy857 (by rfl) (fun K hK => ?_); go_big_quiet_op; refine hK _ ?_; clear hK K) | (refine Sched.yy671 (by rfl) ?_; simp only [Act.put, xsa, xsz, xss]))
     refine Sched.walk_done ?_
     go_wp2
     go_ret2
     have hbel : Below w1.heap.size w1 y3 := HBD.out.trans (HB.out.mono HBD.out.size)
     rw [HR.out]
     exact ⟨⟨_, _, rfl, HO.out.nodes⟩, HB1.out.trans (hbel.mono (by omega))⟩
end Go.Proofs.YtjpjdkdbgjipnaaDoor
