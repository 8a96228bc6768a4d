/- The document's own SameActs: two lists of acts. Condition: no slice and no text is longer than memory. (Merged of 4 texts.) -/
import Derived.Test.YtmedaimndaaiiaaGreatMOm
import Derived.Test.YtmedaimndaaiiaaGreatMMono
import Derived.Test.YtmedaimndaaiiaaGreatMCells
import Derived.Test.YtmedaimndaaiiaaGreatMTxm
import Derived.Laws.Rows
import Derived.BigQuiet
/- The document's own Same, Idle, Keep of parts. Condition: no slice is longer than memory. -/
namespace Go.Proofs.YtmedaimndaaiiaaGreat
open Go.RowKit Go.Deep

/-- Two edits are the same. -/
noncomputable def sameB (l m : List CompV) : Bool := @decide (l = m) (Classical.propDecidable _)
theorem sameB_yes {l m : List CompV} (h : l = m) : sameB l m = true := by unfold sameB; exact @decide_eq_true _ (Classical.propDecidable _) h
theorem sameB_no {l m : List CompV} (h : ¬ l = m) : sameB l m = false := by unfold sameB; exact @decide_eq_false _ (Classical.propDecidable _) h
theorem sameB_self (l : List CompV) : sameB l l = true := sameB_yes rfl

set_option maxHeartbeats 2000000 in
set_option maxRecDepth 100000 in
theorem refSame_any (A B : Option Addr) (ca cb : Nat) (l m : List CompV) (hl : l.length ≤ maxLen) (hm : m.length ≤ maxLen) (hgl : ∀ y ∈ l, y.Good) (hgm : ∀ y ∈ m, y.Good) (w : World) (hA : CompsAt w A l) (hB : CompsAt w B m) :
    Calls Tryz.prog 40 #[.slice A l.length ca, .slice B m.length cb] w fun e w' => e = .returned (.bool (sameB l m)) ∧ Below w.heap.size w w' := by
  unfold maxLen at hl hm
  have HA := Lib.hid hA; clear hA
  have HB := Lib.hid hB; clear hB
  have HGL := Lib.hid hgl; clear hgl
  have HGM := Lib.hid hgm; clear hgm
  obtain ⟨T, HT⟩ : ∃ T, Hid (sameB l m = T) := ⟨_, Lib.hid rfl⟩
  rw [HT.out]
  by_cases hlen : l.length = m.length
  · rw [← hlen]
    have HLEN := Lib.hid hlen
    clear hlen
    go_enter Tryz.func40, Tryz.ntmps40
    go_wp2
    go_loopw [5] (fun i wr => ∃ k : Nat, k ≤ l.length ∧ i = .int .i64 k ∧ l.take k = m.take k ∧ Below w.heap.size w wr) (fun i _ => l.length - (intOf i).toNat)
    case atStart => exact ⟨0, Nat.zero_le _, rfl, rfl, Below.refl _ _⟩
    case round =>
      obtain ⟨k, hk, rfl, htk, hbel⟩ := hrel
      have HBEL := Lib.hid hbel; clear hbel
      have HTK := Lib.hid htk; clear htk
      by_cases hlt : k < l.length
      · have hlt2 : k < m.length := by have := HLEN.out; omega
        obtain ⟨b1, o1, rfl, _⟩ := HA.out.form (by omega)
        obtain ⟨b2, o2, rfl, _⟩ := HB.out.form (by omega)
        obtain ⟨x0, x1, x2⟩ := (HA.out.below HBEL.out).at_ hlt
        obtain ⟨y0, y1, y2⟩ := (HB.out.below HBEL.out).at_ hlt2
        have HYES : Hid (l[k] = m[k] → l.take (k + 1) = m.take (k + 1)) := fun h => by rw [List.take_succ_eq_append_getElem hlt, List.take_succ_eq_append_getElem hlt2, HTK.out, h]
        have HNO : Hid (l[k] ≠ m[k] → T = false) := fun h => by rw [← HT.out]; exact sameB_no fun e => h (by subst e; rfl)
        have HG1 := Lib.hid (HGL.out l[k] (List.getElem_mem hlt))
        have HG2 := Lib.hid (HGM.out m[k] (List.getElem_mem hlt2))
        generalize l[k] = c at x0 x1 x2 HYES HNO HG1
        generalize m[k] = d at y0 y1 y2 HYES HNO HG2
        clear hlt2
        obtain ⟨kd, n, tx⟩ := c
        obtain ⟨kd2, n2, tx2⟩ := d
        simp only at x0 x1 x2 y0 y1 y2
        by_cases e0 : kd = kd2
        · subst e0
          by_cases e1 : n = n2
          · subst e1
            by_cases e2 : tx = tx2
            · subst e2
              go_wp2_with fail
              go_region
              go_wp2
              go_roundw
              case rel => exact ⟨k + 1, by omega, by go_num, HYES.out trivial, HBEL.out.drew⟩
              case measure => simp [intOf]; omega
            · have HF : Hid (T = false) := HNO.out fun h => e2 (by injection h)
              have g2 : ((bstr tx).toList == (bstr tx2).toList) = false := bstr_neq fun h => e2 (bstr_inj _ _ HG1.out.2.2.1 HG2.out.2.2.1 h)
              have g2' : ((bstr tx).toList != (bstr tx2).toList) = true := by rw [bne, g2]; rfl
              clear e2
              go_wp2_with fail
              go_region
              go_wp2
              go_ret
              exact ⟨by rw [HF.out]; rfl, HBEL.out.drew⟩
          · have HF : Hid (T = false) := HNO.out fun h => e1 (by injection h)
            have g1 : (n == n2) = false := beq_eq_false_iff_ne.2 e1
            have g1' : (n != n2) = true := bne_iff_ne.2 e1
            clear e1
            go_wp2_with fail
            go_region
            go_wp2
            go_ret
            exact ⟨by rw [HF.out]; rfl, HBEL.out.drew⟩
        · have HF : Hid (T = false) := HNO.out fun h => e0 (by injection h)
          have g0 : (kd == kd2) = false := beq_eq_false_iff_ne.2 e0
          have g0' : (kd != kd2) = true := bne_iff_ne.2 e0
          clear e0
          go_wp2_with fail
          go_region
          go_wp2
          go_ret
          exact ⟨by rw [HF.out]; rfl, HBEL.out.drew⟩
      · have HF : Hid (T = true) := by
          show T = true
          rw [← HT.out]
          apply sameB_yes
          have := HTK.out
          rwa [List.take_of_length_le (by omega), List.take_of_length_le (by have := HLEN.out; omega)] at this
        go_wp2
        go_ret
        exact ⟨by rw [HF.out]; rfl, HBEL.out⟩
  · have HF : Hid (T = false) := by show T = false; rw [← HT.out]; exact sameB_no fun h => hlen (by rw [h])
    have g0 : ((l.length : Int) == (m.length : Int)) = false := beq_eq_false_iff_ne.2 (by omega)
    have g0' : ((l.length : Int) != (m.length : Int)) = true := bne_iff_ne.2 (by omega)
    clear hlen
    go_enter Tryz.func40, Tryz.ntmps40
    go_wp2
    go_ret
    exact ⟨by rw [HF.out]; rfl, Below.refl _ _⟩

/-- An edit that does nothing. -/
def idleB (l : List CompV) : Bool := l.all fun c => !(c.kind == 2 || c.kind == 3)
/-- An edit that keeps all. -/
def keepL (n : Int) : List CompV := if n < 1 then [] else [⟨1, n, []⟩]
end Go.Proofs.YtmedaimndaaiiaaGreat

/- The document's own Plain. No condition. -/
namespace Go.Proofs.YtmedaimndaaiiaaGreat
open Go.RowKit Go.Deep

theorem two_new (w : World) (x y : Obj) : ((w.alloc x).alloc y).heap[w.heap.size + 1]? = some y := by
  have := heap_alloc_new (w.alloc x) y
  rwa [World.size_alloc] at this
set_option maxHeartbeats 1000000 in
set_option maxRecDepth 100000 in
theorem refPlain_any (a : ActV) (w : World) :
    Calls Tryz.prog 15 #[.agg (actCells a).toArray] w fun e w' => e = .returned (.agg (actCells (aPlain a)).toArray) ∧ Below w.heap.size w w' := by
  obtain ⟨k, i, p, n, d, A, c, o⟩ := a
  by_cases h1 : k = 1
  · rw [aPlain_1 h1]
    subst h1
    unfold actCells
    go_enter Tryz.func15, Tryz.ntmps15
    go_wp2
    refine bodyPost_ret (results_cell_row rfl _ _ (w.heap.size + 1) 25 #[.int .i64 1, .int .i64 i, .int .i64 p, .string (bstr n), .bool d, .slice none 0 0] (0, 0) _ rfl (two_new _ _ _) Tryz.underlying25 rfl (by kernel_rfl)) rfl ?_
    exact ⟨rfl, ((Below.refl _ _).alloc (Nat.le_refl _) _).alloc (by simp) _⟩

  by_cases h2 : k = 2
  · rw [aPlain_2 h2]
    subst h2
    unfold actCells
    go_enter Tryz.func15, Tryz.ntmps15
    go_wp2
    refine bodyPost_ret (results_cell_row rfl _ _ (w.heap.size + 1) 25 #[.int .i64 2, .int .i64 i, .int .i64 0, .string (bstr []), .bool false, .slice none 0 0] (0, 0) _ rfl (two_new _ _ _) Tryz.underlying25 rfl (by kernel_rfl)) rfl ?_
    exact ⟨rfl, ((Below.refl _ _).alloc (Nat.le_refl _) _).alloc (by simp) _⟩

  by_cases h3 : k = 3
  · rw [aPlain_3 h3]
    subst h3
    unfold actCells
    go_enter Tryz.func15, Tryz.ntmps15
    go_wp2
    refine bodyPost_ret (results_cell_row rfl _ _ (w.heap.size + 1) 25 #[.int .i64 3, .int .i64 i, .int .i64 p, .string (bstr n), .bool false, .slice none 0 0] (0, 0) _ rfl (two_new _ _ _) Tryz.underlying25 rfl (by kernel_rfl)) rfl ?_
    exact ⟨rfl, ((Below.refl _ _).alloc (Nat.le_refl _) _).alloc (by simp) _⟩

  by_cases h4 : k = 4
  · rw [aPlain_4 h4]
    subst h4
    unfold actCells
    go_enter Tryz.func15, Tryz.ntmps15
    go_wp2
    refine bodyPost_ret (results_cell_row rfl _ _ (w.heap.size + 1) 25 #[.int .i64 4, .int .i64 i, .int .i64 0, .string (bstr []), .bool false, .slice A o.length c] (0, 0) _ rfl (two_new _ _ _) Tryz.underlying25 rfl (by kernel_rfl)) rfl ?_
    exact ⟨rfl, ((Below.refl _ _).alloc (Nat.le_refl _) _).alloc (by simp) _⟩

  · rw [aPlain_0 ⟨h1, h2, h3, h4⟩]
    have g1 : (k == 1) = false := beq_eq_false_iff_ne.2 h1
    have g2 : (k == 2) = false := beq_eq_false_iff_ne.2 h2
    have g3 : (k == 3) = false := beq_eq_false_iff_ne.2 h3
    have g4 : (k == 4) = false := beq_eq_false_iff_ne.2 h4
    clear h1 h2 h3 h4
    unfold actCells
    go_enter Tryz.func15, Tryz.ntmps15
    go_wp2
    refine bodyPost_ret (results_cell_row rfl _ _ (w.heap.size + 1) 25 #[.int .i64 k, .int .i64 0, .int .i64 0, .string (bstr []), .bool false, .slice none 0 0] (0, 0) _ rfl (two_new _ _ _) Tryz.underlying25 rfl (by kernel_rfl)) rfl ?_
    exact ⟨rfl, ((Below.refl _ _).alloc (Nat.le_refl _) _).alloc (by simp) _⟩

end Go.Proofs.YtmedaimndaaiiaaGreat

/- The document's own SameAct. Condition: no slice and no text is longer than memory. -/
namespace Go.Proofs.YtmedaimndaaiiaaGreat
open Go.RowKit Go.Deep

set_option maxHeartbeats 2000000 in
set_option maxRecDepth 100000 in
theorem refSameAct_any (a b : ActV) (ha : a.Good) (hb : b.Good) (w : World) (hA : CompsAt w a.opsA a.ops) (hB : CompsAt w b.opsA b.ops) :
    Calls Tryz.prog 13 #[.agg (actCells a).toArray, .agg (actCells b).toArray] w fun e w' => e = .returned (.bool (sameA a b)) ∧ Below w.heap.size w w' := by
  have GS := Lib.hid (fun w' (h : Below w.heap.size w w') => refSame_any a.opsA b.opsA a.opsC b.opsC a.ops b.ops (by have := ha.2.2.2.2.2; unfold maxLen at *; omega) (by have := hb.2.2.2.2.2; unfold maxLen at *; omega) ha.2.2.2.2.1 hb.2.2.2.2.1 w' (hA.below h) (hB.below h))
  have hn := ha.2.2.2.1
  have hn2 := hb.2.2.2.1
  have hb2 := ((Below.refl w.heap.size w).alloc (Nat.le_refl _) (.cells (actCells a).toArray 25)).alloc (by simp) (.cells (actCells b).toArray 25)
  clear ha hb hA hB
  obtain ⟨k, i, p, n, d, A, c, o⟩ := a
  obtain ⟨k2, i2, p2, n2, d2, A2, c2, o2⟩ := b
  simp only at GS hn hn2
  by_cases h0 : k = k2
  · subst h0
    by_cases h1 : i = i2
    · subst h1
      by_cases h2 : p = p2
      · subst h2
        by_cases h3 : n = n2
        · subst h3
          by_cases h4 : d = d2
          · subst h4
            rw [show sameA ⟨k, i, p, n, d, A, c, o⟩ ⟨k, i, p, n, d, A2, c2, o2⟩ = sameB o o2 from by
              by_cases h : o = o2
              · rw [sameB_yes h]; exact sameA_yes (by simp [aKey, h])
              · rw [sameB_no h]; exact sameA_no (fun e => h (by simpa [aKey] using e))]
            generalize sameB o o2 = T at GS
            have eT : (if T = true then T else false) = T := by cases T <;> rfl
            unfold actCells at hb2 ⊢
            simp only at hb2
            go_enter Tryz.func13, Tryz.ntmps13
            go_wp2_with fail
            refine (GS.out _ hb2).mono ?_
            rintro e w2 ⟨rfl, hb3⟩
            go_wp2
            go_ret
            exact ⟨rfl, hb2.trans (hb3.mono hb2.size)⟩

          · skip
            rw [sameA_no fun e => h4 (by simp only [aKey, Prod.mk.injEq] at e; exact e.2.2.2.2.1)]
            have g : (d == d2) = false := beq_eq_false_iff_ne.2 h4
            clear h4 GS
            unfold actCells at hb2 ⊢
            go_enter Tryz.func13, Tryz.ntmps13
            go_wp2
            go_ret
            exact ⟨rfl, hb2⟩


        · skip
          rw [sameA_no fun e => h3 (by simp only [aKey, Prod.mk.injEq] at e; exact e.2.2.2.1)]
          have g : ((bstr n).toList == (bstr n2).toList) = false := bstr_neq fun h => h3 (bstr_inj _ _ hn.1 hn2.1 h)
          clear h3 GS
          unfold actCells at hb2 ⊢
          go_enter Tryz.func13, Tryz.ntmps13
          go_wp2
          go_ret
          exact ⟨rfl, hb2⟩


      · skip
        rw [sameA_no fun e => h2 (by simp only [aKey, Prod.mk.injEq] at e; exact e.2.2.1)]
        have g : (p == p2) = false := beq_eq_false_iff_ne.2 h2
        clear h2 GS
        unfold actCells at hb2 ⊢
        go_enter Tryz.func13, Tryz.ntmps13
        go_wp2
        go_ret
        exact ⟨rfl, hb2⟩


    · skip
      rw [sameA_no fun e => h1 (by simp only [aKey, Prod.mk.injEq] at e; exact e.2.1)]
      have g : (i == i2) = false := beq_eq_false_iff_ne.2 h1
      clear h1 GS
      unfold actCells at hb2 ⊢
      go_enter Tryz.func13, Tryz.ntmps13
      go_wp2
      go_ret
      exact ⟨rfl, hb2⟩


  · skip
    rw [sameA_no fun e => h0 (by simp only [aKey, Prod.mk.injEq] at e; exact e.1)]
    have g : (k == k2) = false := beq_eq_false_iff_ne.2 h0
    clear h0 GS
    unfold actCells at hb2 ⊢
    go_enter Tryz.func13, Tryz.ntmps13
    go_wp2
    go_ret
    exact ⟨rfl, hb2⟩


end Go.Proofs.YtmedaimndaaiiaaGreat

/- The document's own SameActs: two lists of acts. Condition: no slice and no text is longer than memory. -/
namespace Go.Proofs.YtmedaimndaaiiaaGreat
open Go.RowKit Go.Deep

set_option maxHeartbeats 4000000 in
set_option maxRecDepth 100000 in
theorem refSameActs_any (A B : Option Addr) (ca cb : Nat) (l m : List ActV) (hl : l.length ≤ maxLen) (hm : m.length ≤ maxLen) (hgl : ∀ y ∈ l, y.Good) (hgm : ∀ y ∈ m, y.Good) (w : World) (hA : ActsAt w A l) (hB : ActsAt w B m) :
    Calls Tryz.prog 12 #[.slice A l.length ca, .slice B m.length cb] w fun e w' => e = .returned (.bool (sameAs l m)) ∧ Below w.heap.size w w' := by
  unfold maxLen at hl hm
  have HA := Lib.hid hA; clear hA
  have HB := Lib.hid hB; clear hB
  obtain ⟨T, HT⟩ : ∃ T, Hid (sameAs l m = T) := ⟨_, Lib.hid rfl⟩
  rw [HT.out]
  by_cases hlen : l.length = m.length
  · rw [← hlen]
    have HLEN := Lib.hid hlen
    clear hlen
    go_enter Tryz.func12, Tryz.ntmps12
    go_wp2
    go_loopw [5] (fun i wr => ∃ k : Nat, k ≤ l.length ∧ i = .int .i64 k ∧ Hid ((l.take k).map aKey = (m.take k).map aKey) ∧ Hid (Below w.heap.size w wr)) (fun i _ => l.length - (intOf i).toNat)
    case atStart => exact ⟨0, Nat.zero_le _, rfl, Lib.hid rfl, Lib.hid (Below.refl _ _)⟩
    case round =>
      obtain ⟨k, hk, rfl, HTK, HBEL⟩ := hrel
      by_cases hlt : k < l.length
      · have hlt2 : k < m.length := by have := HLEN.out; omega
        have hltI : (k : Int) < (l.length : Int) := by omega
        obtain ⟨b1, o1, rfl, _⟩ := HA.out.form (by omega)
        obtain ⟨b2, o2, rfl, _⟩ := HB.out.form (by omega)
        have HX : Hid (∀ X : World, Below w.heap.size w X → _) := Lib.hid (fun X h => (HA.out.below h).at_ hlt)
        have HY : Hid (∀ X : World, Below w.heap.size w X → _) := Lib.hid (fun X h => (HB.out.below h).at_ hlt2)
        have HYES : Hid (aKey l[k] = aKey m[k] → (l.take (k + 1)).map aKey = (m.take (k + 1)).map aKey) := Lib.hid (fun h => by rw [List.take_succ_eq_append_getElem hlt, List.take_succ_eq_append_getElem hlt2, List.map_append, List.map_append, HTK.out, List.map_singleton, List.map_singleton, h])
        have HNO : Hid (aKey l[k] ≠ aKey m[k] → T = false) := Lib.hid (fun h => by
          rw [← HT.out]
          refine sameAs_no fun e => h ?_
          have e2 := congrArg (fun q => q[k]?) e
          simpa [List.getElem?_map, List.getElem?_eq_getElem hlt, List.getElem?_eq_getElem hlt2] using e2)
        have GS := Lib.hid (fun (w' : World) (h : Below w.heap.size w w') => refSameAct_any l[k] m[k] (hgl _ (List.getElem_mem hlt)) (hgm _ (List.getElem_mem hlt2)) w' ((HA.out.below h).2 _ (List.getElem_mem hlt)) ((HB.out.below h).2 _ (List.getElem_mem hlt2)))
        clear hgl hgm
        generalize l[k] = c at HX HYES HNO GS
        generalize m[k] = d at HY HYES HNO GS
        obtain ⟨S, HSS⟩ : ∃ S, Hid (sameA c d = S) := ⟨_, Lib.hid rfl⟩
        rw [HSS.out] at GS
        unfold actCells at GS
        have hb0 := Below.drew HBEL.out
        go_wp2_with fail
        refine wp_region_lit [(0, true), (1, true), (2, true), (3, true), (4, true), (5, true), (6, true), (7, true), (8, false), (9, true)] (by kernel_rfl) (by kernel_rfl) (fun _ _ d _ _ h => by cases d <;> exact h) ?_
        simp only [picked, List.map_cons, List.map_nil, List.getElem?_cons_succ, List.getElem?_cons_zero, Option.getD_some]
        generalize wr.drew = wd at hb0 ⊢
        have HB0 := Lib.hid hb0
        clear hb0
        have p0 := fun e : Ext wd => (HX.out e.val (HB0.out.trans (e.property.mono HB0.out.size))).1
        have p1 := fun e : Ext wd => (HX.out e.val (HB0.out.trans (e.property.mono HB0.out.size))).2.1
        have p2 := fun e : Ext wd => (HX.out e.val (HB0.out.trans (e.property.mono HB0.out.size))).2.2.1
        have p3 := fun e : Ext wd => (HX.out e.val (HB0.out.trans (e.property.mono HB0.out.size))).2.2.2.1
        have p4 := fun e : Ext wd => (HX.out e.val (HB0.out.trans (e.property.mono HB0.out.size))).2.2.2.2.1
        have p5 := fun e : Ext wd => (HX.out e.val (HB0.out.trans (e.property.mono HB0.out.size))).2.2.2.2.2
        have q0 := fun e : Ext wd => (HY.out e.val (HB0.out.trans (e.property.mono HB0.out.size))).1
        have q1 := fun e : Ext wd => (HY.out e.val (HB0.out.trans (e.property.mono HB0.out.size))).2.1
        have q2 := fun e : Ext wd => (HY.out e.val (HB0.out.trans (e.property.mono HB0.out.size))).2.2.1
        have q3 := fun e : Ext wd => (HY.out e.val (HB0.out.trans (e.property.mono HB0.out.size))).2.2.2.1
        have q4 := fun e : Ext wd => (HY.out e.val (HB0.out.trans (e.property.mono HB0.out.size))).2.2.2.2.1
        have q5 := fun e : Ext wd => (HY.out e.val (HB0.out.trans (e.property.mono HB0.out.size))).2.2.2.2.2
        repeat (refine wpL_quiet (by rfl) (fun K hK => ?_); go_big_quiet_op; refine hK _ ?_; clear hK K)
        clear p0 p1 p2 p3 p4 p5 q0 q1 q2 q3 q4 q5
        refine wpL_call (by rfl) (fun K hK => ?_)
        go_simp
        refine (GS.out _ HB0.out).mono ?_
        rintro e x1 ⟨rfl, hb⟩
        have HB1 := Lib.hid (HB0.out.trans (hb.mono HB0.out.size))
        refine hK _ _ hb ?_
        clear hK K hb GS
        repeat (refine wpL_quiet (by rfl) (fun K hK => ?_); go_big_quiet_op; refine hK _ ?_; clear hK K)
        refine wpL_nil ?_
        cases S with
        | true =>
          have HE : Hid (aKey c = aKey d) := by
            show _
            by_cases h : aKey c = aKey d
            · exact Lib.hid h
            · have := HSS.out
              rw [sameA_no h] at this
              cases this
          have HR := Lib.hid (HYES.out HE.out)
          clear HYES HNO
          go_wp2
          go_roundw
          case rel => exact ⟨k + 1, by omega, by go_num, HR, HB1⟩
          case measure => simp [intOf]; omega
        | false =>
          have HF := Lib.hid (HNO.out fun h => by
            have := HSS.out
            rw [sameA_yes h] at this
            cases this)
          go_wp2
          go_ret
          exact ⟨by rw [HF.out]; rfl, HB1.out⟩
      · have HF : Hid (T = true) := by
          show T = true
          rw [← HT.out]
          apply sameAs_yes
          have := HTK.out
          rwa [List.take_of_length_le (by omega), List.take_of_length_le (by have := HLEN.out; omega)] at this
        go_wp2
        go_ret
        exact ⟨by rw [HF.out]; rfl, HBEL.out⟩
  · have HF : Hid (T = false) := by show T = false; rw [← HT.out]; exact sameAs_no fun h => hlen (by have := congrArg List.length h; simpa using this)
    have g0 : ((l.length : Int) == (m.length : Int)) = false := beq_eq_false_iff_ne.2 (by omega)
    have g0' : ((l.length : Int) != (m.length : Int)) = true := bne_iff_ne.2 (by omega)
    clear hlen
    go_enter Tryz.func12, Tryz.ntmps12
    go_wp2
    go_ret
    exact ⟨by rw [HF.out]; rfl, Below.refl _ _⟩
end Go.Proofs.YtmedaimndaaiiaaGreat
