/- The landed txn's Same: two rows of acts. Condition: no slice and no text is longer than memory. (Merged of 4 texts.) -/
import Derived.Test.YtmedaimndaaiiaaGreatMTOpLen
import Derived.Test.YtmedaimndaaiiaaGreatMRpl
import Derived.Test.YtmedaimndaaiiaaGreatMUw
import Derived.Laws.StructEq
import Derived.Test.YtmedaimndaaiiaaGreatMTxm
/- The landed Same, Idle, Keep of parts. Condition: no slice is longer than memory. -/
namespace Go.Proofs.YtmedaimndaaiiaaGreat
open Go.RowKit Go.Deep

set_option maxRecDepth 100000 in
theorem comp_eqlIn (a b x y : Int) (t u : ByteArray) (w : World) :
    (Op.equalIn 10000 59 (.agg #[.int .i64 a, .int .i64 b, .string t]) (.agg #[.int .i64 x, .int .i64 y, .string u])).run Tryz.prog w = .ok (a == x && (b == y && t.toList == u.toList)) w := by
  have hS : Tryz.prog.underlying 59 = some (.struct (Tryz.prog.fieldsOf 59)) := by kernel_rfl
  have hp : Tryz.prog.stoodInHeld 59 = false := by kernel_rfl
  have u3 := Tryz.underlying3
  have a3 := Tryz.isAgg3
  have z3 := Tryz.sizeOf3
  have u9 := Tryz.underlying9
  have a9 := Tryz.isAgg9
  have z9 := Tryz.sizeOf9
  rw [show (10000 : Nat) = 9999 + 1 from rfl, run_equalIn_agg w 9999 59 _ _ hS hp]
  simp only [Program.fieldsOf, Tryz.underlying59]
  cases h1 : a == x <;> cases h2 : b == y <;> cases h3 : t.toList == u.toList <;> go_simp <;> simp [h1, h2, h3]
set_option maxRecDepth 100000 in
theorem comp_neq (a b x y : Int) (t u : ByteArray) (w : World) :
    (binOp .neq 59 (.agg #[.int .i64 a, .int .i64 b, .string t]) (.agg #[.int .i64 x, .int .i64 y, .string u])).run Tryz.prog w = .ok (.bool (!(a == x && (b == y && t.toList == u.toList)))) w := by
  rw [run_neq_struct, comp_eqlIn]
  rfl
theorem comp_guard : Tryz.prog.eqGuardType Tryz.prog.depth 59 = false := by kernel_rfl

set_option maxHeartbeats 2000000 in
set_option maxRecDepth 100000 in
theorem slEqual_any (A B : Option Addr) (ca cb : Nat) (l m : List CompV) (hl : l.length ≤ maxLen) (hm : m.length ≤ maxLen) (hgl : ∀ y ∈ l, y.Good) (hgm : ∀ y ∈ m, y.Good) (w : World) (hA : CompsAt w A l) (hB : CompsAt w B m) :
    Calls Tryz.prog 98 #[.slice A l.length ca, .slice B m.length cb] w fun e w' => e = .returned (.bool (sameB l m)) ∧ Below w.heap.size w w' := by
  unfold maxLen at hl hm
  have HA := Lib.hid hA; clear hA
  have HB := Lib.hid hB; clear hB
  have HGL := Lib.hid hgl; clear hgl
  have HGM := Lib.hid hgm; clear hgm
  obtain ⟨T, HT⟩ : ∃ T, Hid (sameB l m = T) := ⟨_, Lib.hid rfl⟩
  rw [HT.out]
  by_cases hlen : l.length = m.length
  · rw [← hlen]
    have HLEN := Lib.hid hlen
    clear hlen
    go_enter Tryz.func98, Tryz.ntmps98
    go_wp2
    go_loopw [13] (fun i wr => ∃ k : Nat, k ≤ l.length ∧ i = .int .i64 k ∧ l.take k = m.take k ∧ Below w.heap.size w wr) (fun i _ => l.length - (intOf i).toNat)
    case atStart => exact ⟨0, Nat.zero_le _, rfl, rfl, Below.refl _ _⟩
    case round =>
      obtain ⟨k, hk, rfl, htk, hbel⟩ := hrel
      have HBEL := Lib.hid hbel; clear hbel
      have HTK := Lib.hid htk; clear htk
      by_cases hlt : k < l.length
      · have hlt2 : k < m.length := by have := HLEN.out; omega
        obtain ⟨b1, o1, rfl, _⟩ := HA.out.form (by omega)
        obtain ⟨b2, o2, rfl, _⟩ := HB.out.form (by omega)
        obtain ⟨x0, x1, x2⟩ := (HA.out.below HBEL.out).at_ hlt
        obtain ⟨y0, y1, y2⟩ := (HB.out.below HBEL.out).at_ hlt2
        have HYES : Hid (l[k] = m[k] → l.take (k + 1) = m.take (k + 1)) := fun h => by rw [List.take_succ_eq_append_getElem hlt, List.take_succ_eq_append_getElem hlt2, HTK.out, h]
        have HNO : Hid (l[k] ≠ m[k] → T = false) := fun h => by rw [← HT.out]; exact sameB_no fun e => h (by subst e; rfl)
        have HG1 := Lib.hid (HGL.out l[k] (List.getElem_mem hlt))
        have HG2 := Lib.hid (HGM.out m[k] (List.getElem_mem hlt2))
        generalize l[k] = c at x0 x1 x2 HYES HNO HG1
        generalize m[k] = d at y0 y1 y2 HYES HNO HG2
        clear hlt2
        obtain ⟨kd, n, tx⟩ := c
        obtain ⟨kd2, n2, tx2⟩ := d
        simp only at x0 x1 x2 y0 y1 y2
        have hgt := comp_guard
        have hcm := fun w => comp_neq kd n kd2 n2 (bstr tx) (bstr tx2) w
        have hce := fun w => comp_eqlIn kd n kd2 n2 (bstr tx) (bstr tx2) w
        by_cases he : kd = kd2 ∧ n = n2 ∧ tx = tx2
        · have HY2 := Lib.hid (HYES.out (by obtain ⟨rfl, rfl, rfl⟩ := he; rfl))
          have hv : (kd == kd2 && (n == n2 && (bstr tx).toList == (bstr tx2).toList)) = true := by obtain ⟨rfl, rfl, rfl⟩ := he; simp
          rw [hv] at hce
          replace hcm := fun w => (hcm w).trans (by rw [hv]; rfl : _ = Result.ok (.bool false) w)
          clear hv he
          go_wp2_with fail
          go_region
          go_wp2
          go_roundw
          case rel => exact ⟨k + 1, by omega, by go_num, HY2.out, HBEL.out.drew⟩
          case measure => simp [intOf]; omega
        · have HF : Hid (T = false) := HNO.out fun h => he (by injection h with h1 h2 h3; exact ⟨h1, h2, h3⟩)
          have hv : (kd == kd2 && (n == n2 && (bstr tx).toList == (bstr tx2).toList)) = false := by
            by_cases e0 : kd = kd2
            · by_cases e1 : n = n2
              · have e2 : ¬ tx = tx2 := fun e => he ⟨e0, e1, e⟩
                rw [bstr_neq fun h => e2 (bstr_inj _ _ HG1.out.2.2.1 HG2.out.2.2.1 h)]
                simp
              · rw [beq_eq_false_iff_ne.2 e1]; simp
            · rw [beq_eq_false_iff_ne.2 e0]; simp
          rw [hv] at hce
          replace hcm := fun w => (hcm w).trans (by rw [hv]; rfl : _ = Result.ok (.bool true) w)
          clear hv he
          go_wp2_with fail
          go_region
          go_wp2
          go_ret
          exact ⟨by rw [HF.out]; rfl, HBEL.out.drew⟩
      · have HF : Hid (T = true) := by
          show T = true
          rw [← HT.out]
          apply sameB_yes
          have := HTK.out
          rwa [List.take_of_length_le (by omega), List.take_of_length_le (by have := HLEN.out; omega)] at this
        go_wp2
        go_ret
        exact ⟨by rw [HF.out]; rfl, HBEL.out⟩
  · have HF : Hid (T = false) := by show T = false; rw [← HT.out]; exact sameB_no fun h => hlen (by rw [h])
    have g0 : ((l.length : Int) == (m.length : Int)) = false := beq_eq_false_iff_ne.2 (by omega)
    have g0' : ((l.length : Int) != (m.length : Int)) = true := bne_iff_ne.2 (by omega)
    clear hlen
    go_enter Tryz.func98, Tryz.ntmps98
    go_wp2
    go_ret
    exact ⟨by rw [HF.out]; rfl, Below.refl _ _⟩
theorem opSame_any (A B : Option Addr) (ca cb : Nat) (l m : List CompV) (hl : l.length ≤ maxLen) (hm : m.length ≤ maxLen) (hgl : ∀ y ∈ l, y.Good) (hgm : ∀ y ∈ m, y.Good) (w : World) (hA : CompsAt w A l) (hB : CompsAt w B m) :
    Calls Tryz.prog 71 #[.slice A l.length ca, .slice B m.length cb] w fun e w' => e = .returned (.bool (sameB l m)) ∧ Below w.heap.size w w' := by
  have GE := Lib.hid (slEqual_any A B ca cb l m hl hm hgl hgm w hA hB)
  obtain ⟨T, HT⟩ : ∃ T, Hid (sameB l m = T) := ⟨_, Lib.hid rfl⟩
  rw [HT.out] at GE ⊢
  clear hA hB hgl hgm
  go_enter Tryz.func71, Tryz.ntmps71
  go_wp2_with fail
  refine GE.out.mono ?_
  rintro e w1 ⟨rfl, hb1⟩
  have HB1 := Lib.hid hb1; clear hb1
  go_wp2
  go_ret
  exact ⟨rfl, HB1.out⟩

end Go.Proofs.YtmedaimndaaiiaaGreat

/- The landed txn's named: an act with those fields alone that its Kind names. No condition. -/
namespace Go.Proofs.YtmedaimndaaiiaaGreat
open Go.RowKit Go.Deep

set_option maxHeartbeats 1000000 in
set_option maxRecDepth 100000 in
theorem named_any (a : ActV) (w : World) :
    Calls Tryz.prog 41 #[.agg (actCells a).toArray] w fun e w' => e = .returned (.agg (actCells (aPlain a)).toArray) ∧ Below w.heap.size w w' := by
  obtain ⟨k, i, p, n, d, A, c, o⟩ := a
  by_cases h1 : k = 1
  · rw [aPlain_1 h1]
    subst h1
    unfold actCells
    go_enter Tryz.func41, Tryz.ntmps41
    go_wp2
    refine bodyPost_ret (results_cell_row rfl _ _ (w.heap.size + 1) 25 #[.int .i64 1, .int .i64 i, .int .i64 p, .string (bstr n), .bool d, .slice none 0 0] (0, 0) _ rfl (two_new _ _ _) Tryz.underlying25 rfl (by kernel_rfl)) rfl ?_
    exact ⟨rfl, ((Below.refl _ _).alloc (Nat.le_refl _) _).alloc (by simp) _⟩

  by_cases h2 : k = 2
  · rw [aPlain_2 h2]
    subst h2
    unfold actCells
    go_enter Tryz.func41, Tryz.ntmps41
    go_wp2
    refine bodyPost_ret (results_cell_row rfl _ _ (w.heap.size + 1) 25 #[.int .i64 2, .int .i64 i, .int .i64 0, .string (bstr []), .bool false, .slice none 0 0] (0, 0) _ rfl (two_new _ _ _) Tryz.underlying25 rfl (by kernel_rfl)) rfl ?_
    exact ⟨rfl, ((Below.refl _ _).alloc (Nat.le_refl _) _).alloc (by simp) _⟩

  by_cases h3 : k = 3
  · rw [aPlain_3 h3]
    subst h3
    unfold actCells
    go_enter Tryz.func41, Tryz.ntmps41
    go_wp2
    refine bodyPost_ret (results_cell_row rfl _ _ (w.heap.size + 1) 25 #[.int .i64 3, .int .i64 i, .int .i64 p, .string (bstr n), .bool false, .slice none 0 0] (0, 0) _ rfl (two_new _ _ _) Tryz.underlying25 rfl (by kernel_rfl)) rfl ?_
    exact ⟨rfl, ((Below.refl _ _).alloc (Nat.le_refl _) _).alloc (by simp) _⟩

  by_cases h4 : k = 4
  · rw [aPlain_4 h4]
    subst h4
    unfold actCells
    go_enter Tryz.func41, Tryz.ntmps41
    go_wp2
    refine bodyPost_ret (results_cell_row rfl _ _ (w.heap.size + 1) 25 #[.int .i64 4, .int .i64 i, .int .i64 0, .string (bstr []), .bool false, .slice A o.length c] (0, 0) _ rfl (two_new _ _ _) Tryz.underlying25 rfl (by kernel_rfl)) rfl ?_
    exact ⟨rfl, ((Below.refl _ _).alloc (Nat.le_refl _) _).alloc (by simp) _⟩

  · rw [aPlain_0 ⟨h1, h2, h3, h4⟩]
    have g1 : (k == 1) = false := beq_eq_false_iff_ne.2 h1
    have g2 : (k == 2) = false := beq_eq_false_iff_ne.2 h2
    have g3 : (k == 3) = false := beq_eq_false_iff_ne.2 h3
    have g4 : (k == 4) = false := beq_eq_false_iff_ne.2 h4
    clear h1 h2 h3 h4
    unfold actCells
    go_enter Tryz.func41, Tryz.ntmps41
    go_wp2
    refine bodyPost_ret (results_cell_row rfl _ _ (w.heap.size + 1) 25 #[.int .i64 k, .int .i64 0, .int .i64 0, .string (bstr []), .bool false, .slice none 0 0] (0, 0) _ rfl (two_new _ _ _) Tryz.underlying25 rfl (by kernel_rfl)) rfl ?_
    exact ⟨rfl, ((Below.refl _ _).alloc (Nat.le_refl _) _).alloc (by simp) _⟩

end Go.Proofs.YtmedaimndaaiiaaGreat

/- The landed txn's alike: two acts compared. Condition: no slice and no text is longer than memory. -/
namespace Go.Proofs.YtmedaimndaaiiaaGreat
open Go.RowKit Go.Deep

set_option maxHeartbeats 2000000 in
set_option maxRecDepth 100000 in
theorem alike_any (a b : ActV) (ha : a.Good) (hb : b.Good) (w : World) (hA : CompsAt w a.opsA a.ops) (hB : CompsAt w b.opsA b.ops) :
    Calls Tryz.prog 39 #[.agg (actCells a).toArray, .agg (actCells b).toArray] w fun e w' => e = .returned (.bool (sameA a b)) ∧ Below w.heap.size w w' := by
  have GS := Lib.hid (fun w' (h : Below w.heap.size w w') => opSame_any a.opsA b.opsA a.opsC b.opsC a.ops b.ops (by have := ha.2.2.2.2.2; unfold maxLen at *; omega) (by have := hb.2.2.2.2.2; unfold maxLen at *; omega) ha.2.2.2.2.1 hb.2.2.2.2.1 w' (hA.below h) (hB.below h))
  have hn := ha.2.2.2.1
  have hn2 := hb.2.2.2.1
  have hb2 := ((Below.refl w.heap.size w).alloc (Nat.le_refl _) (.cells (actCells a).toArray 25)).alloc (by simp) (.cells (actCells b).toArray 25)
  clear ha hb hA hB
  obtain ⟨k, i, p, n, d, A, c, o⟩ := a
  obtain ⟨k2, i2, p2, n2, d2, A2, c2, o2⟩ := b
  simp only at GS hn hn2
  by_cases h0 : k = k2
  · subst h0
    by_cases h1 : i = i2
    · subst h1
      by_cases h2 : p = p2
      · subst h2
        by_cases h3 : n = n2
        · subst h3
          by_cases h4 : d = d2
          · subst h4
            rw [show sameA ⟨k, i, p, n, d, A, c, o⟩ ⟨k, i, p, n, d, A2, c2, o2⟩ = sameB o o2 from by
              by_cases h : o = o2
              · rw [sameB_yes h]; exact sameA_yes (by simp [aKey, h])
              · rw [sameB_no h]; exact sameA_no (fun e => h (by simpa [aKey] using e))]
            generalize sameB o o2 = T at GS
            have eT : (if T = true then T else false) = T := by cases T <;> rfl
            unfold actCells at hb2 ⊢
            simp only at hb2
            go_enter Tryz.func39, Tryz.ntmps39
            go_wp2_with fail
            refine (GS.out _ hb2).mono ?_
            rintro e w2 ⟨rfl, hb3⟩
            go_wp2
            go_ret
            exact ⟨rfl, hb2.trans (hb3.mono hb2.size)⟩

          · skip
            rw [sameA_no fun e => h4 (by simp only [aKey, Prod.mk.injEq] at e; exact e.2.2.2.2.1)]
            have g : (d == d2) = false := beq_eq_false_iff_ne.2 h4
            clear h4 GS
            unfold actCells at hb2 ⊢
            go_enter Tryz.func39, Tryz.ntmps39
            go_wp2
            go_ret
            exact ⟨rfl, hb2⟩


        · skip
          rw [sameA_no fun e => h3 (by simp only [aKey, Prod.mk.injEq] at e; exact e.2.2.2.1)]
          have g : ((bstr n).toList == (bstr n2).toList) = false := bstr_neq fun h => h3 (bstr_inj _ _ hn.1 hn2.1 h)
          clear h3 GS
          unfold actCells at hb2 ⊢
          go_enter Tryz.func39, Tryz.ntmps39
          go_wp2
          go_ret
          exact ⟨rfl, hb2⟩


      · skip
        rw [sameA_no fun e => h2 (by simp only [aKey, Prod.mk.injEq] at e; exact e.2.2.1)]
        have g : (p == p2) = false := beq_eq_false_iff_ne.2 h2
        clear h2 GS
        unfold actCells at hb2 ⊢
        go_enter Tryz.func39, Tryz.ntmps39
        go_wp2
        go_ret
        exact ⟨rfl, hb2⟩


    · skip
      rw [sameA_no fun e => h1 (by simp only [aKey, Prod.mk.injEq] at e; exact e.2.1)]
      have g : (i == i2) = false := beq_eq_false_iff_ne.2 h1
      clear h1 GS
      unfold actCells at hb2 ⊢
      go_enter Tryz.func39, Tryz.ntmps39
      go_wp2
      go_ret
      exact ⟨rfl, hb2⟩


  · skip
    rw [sameA_no fun e => h0 (by simp only [aKey, Prod.mk.injEq] at e; exact e.1)]
    have g : (k == k2) = false := beq_eq_false_iff_ne.2 h0
    clear h0 GS
    unfold actCells at hb2 ⊢
    go_enter Tryz.func39, Tryz.ntmps39
    go_wp2
    go_ret
    exact ⟨rfl, hb2⟩


end Go.Proofs.YtmedaimndaaiiaaGreat

/- The landed txn's Same: two rows of acts. Condition: no slice and no text is longer than memory. -/
namespace Go.Proofs.YtmedaimndaaiiaaGreat
open Go.RowKit Go.Deep

set_option maxHeartbeats 4000000 in
set_option maxRecDepth 100000 in
theorem actsEqual_any (A B : Option Addr) (ca cb : Nat) (l m : List ActV) (hl : l.length ≤ maxLen) (hm : m.length ≤ maxLen) (hgl : ∀ y ∈ l, y.Good) (hgm : ∀ y ∈ m, y.Good) (w : World) (hA : ActsAt w A l) (hB : ActsAt w B m) :
    Calls Tryz.prog 38 #[.slice A l.length ca, .slice B m.length cb, .func (.func 39) #[] #[]] w fun e w' => e = .returned (.bool (sameAs l m)) ∧ Below w.heap.size w w' := by
  unfold maxLen at hl hm
  have HA := Lib.hid hA; clear hA
  have HB := Lib.hid hB; clear hB
  obtain ⟨T, HT⟩ : ∃ T, Hid (sameAs l m = T) := ⟨_, Lib.hid rfl⟩
  rw [HT.out]
  by_cases hlen : l.length = m.length
  · rw [← hlen]
    have HLEN := Lib.hid hlen
    clear hlen
    go_enter Tryz.func38, Tryz.ntmps38
    go_wp2
    go_loopw [7, 8, 9, 17] (fun s7 s8 s9 i wr => ∃ k : Nat, k ≤ l.length ∧ s7 = s7 ∧ s8 = s8 ∧ s9 = s9 ∧ i = .int .i64 k ∧ Hid ((l.take k).map aKey = (m.take k).map aKey) ∧ Hid (Below w.heap.size w wr)) (fun _ _ _ i _ => l.length - (intOf i).toNat)
    case atStart => exact ⟨0, Nat.zero_le _, rfl, rfl, rfl, rfl, Lib.hid rfl, Lib.hid (Below.refl _ _)⟩
    case round =>
      obtain ⟨k, hk, _, _, _, rfl, HTK, HBEL⟩ := hrel
      by_cases hlt : k < l.length
      · have hlt2 : k < m.length := by have := HLEN.out; omega
        have hltI : (k : Int) < (l.length : Int) := by omega
        obtain ⟨b1, o1, rfl, _⟩ := HA.out.form (by omega)
        obtain ⟨b2, o2, rfl, _⟩ := HB.out.form (by omega)
        obtain ⟨x0, x1, x2, x3, x4, x5⟩ := (HA.out.below HBEL.out).at_ hlt
        have HYES : Hid (aKey l[k] = aKey m[k] → (l.take (k + 1)).map aKey = (m.take (k + 1)).map aKey) := Lib.hid (fun h => by rw [List.take_succ_eq_append_getElem hlt, List.take_succ_eq_append_getElem hlt2, List.map_append, List.map_append, HTK.out, List.map_singleton, List.map_singleton, h])
        have HNO : Hid (aKey l[k] ≠ aKey m[k] → T = false) := Lib.hid (fun h => by
          rw [← HT.out]
          refine sameAs_no fun e => h ?_
          have e2 := congrArg (fun q => q[k]?) e
          simpa [List.getElem?_map, List.getElem?_eq_getElem hlt, List.getElem?_eq_getElem hlt2] using e2)
        have GS := Lib.hid (fun (w' : World) (h : Below w.heap.size w w') => alike_any l[k] m[k] (hgl _ (List.getElem_mem hlt)) (hgm _ (List.getElem_mem hlt2)) w' ((HA.out.below h).2 _ (List.getElem_mem hlt)) ((HB.out.below h).2 _ (List.getElem_mem hlt2)))
        have HY := Lib.hid (fun (W : World) (h : Below w.heap.size w W) => (HB.out.below h).at_ hlt2)
        clear hgl hgm
        generalize l[k] = c at x0 x1 x2 x3 x4 x5 HYES HNO GS
        generalize m[k] = d at HY HYES HNO GS
        obtain ⟨S, HSS⟩ : ∃ S, Hid (sameA c d = S) := ⟨_, Lib.hid rfl⟩
        rw [HSS.out] at GS
        unfold actCells at GS
        have HB1 : Hid (Below w.heap.size w (wr.alloc (.cells (actCells c).toArray 25))) := Lib.hid (HBEL.out.alloc HBEL.out.size _)
        obtain ⟨y0, y1, y2, y3, y4, y5⟩ := HY.out _ HB1.out
        have HB2 : Hid (Below w.heap.size w ((wr.alloc (.cells (actCells c).toArray 25)).alloc (.cells (actCells d).toArray 25))) := Lib.hid (HB1.out.alloc HB1.out.size _)
        unfold actCells at y0 y1 y2 y3 y4 y5 HB1 HB2
        have ec : ∀ args w, (callFunc 39 args).run Tryz.prog w = .ok (.enter 39 args) w := enters_of Tryz.func39 (by kernel_rfl) rfl
        clear HY
        go_wp2_with fail
        refine (GS.out _ HB2.out).mono ?_
        rintro e x1 ⟨rfl, hb⟩
        have HB3 := Lib.hid (HB2.out.trans (hb.mono HB2.out.size))
        clear hb
        cases S with
        | true =>
          have HE : Hid (aKey c = aKey d) := by
            show _
            by_cases h : aKey c = aKey d
            · exact Lib.hid h
            · have := HSS.out
              rw [sameA_no h] at this
              cases this
          have HR := Lib.hid (HYES.out HE.out)
          clear HYES HNO
          go_wp2
          go_roundw
          case rel => exact ⟨k + 1, by omega, trivial, trivial, trivial, by go_num, HR, HB3⟩
          case measure => simp [intOf]; omega
        | false =>
          have HF := Lib.hid (HNO.out fun h => by
            have := HSS.out
            rw [sameA_yes h] at this
            cases this)
          go_wp2
          go_ret
          exact ⟨by rw [HF.out]; rfl, HB3.out⟩
      · have HF : Hid (T = true) := by
          show T = true
          rw [← HT.out]
          apply sameAs_yes
          have := HTK.out
          rwa [List.take_of_length_le (by omega), List.take_of_length_le (by have := HLEN.out; omega)] at this
        go_wp2
        go_ret
        exact ⟨by rw [HF.out]; rfl, HBEL.out⟩
  · have HF : Hid (T = false) := by show T = false; rw [← HT.out]; exact sameAs_no fun h => hlen (by have := congrArg List.length h; simpa using this)
    have g0 : ((l.length : Int) == (m.length : Int)) = false := beq_eq_false_iff_ne.2 (by omega)
    have g0' : ((l.length : Int) != (m.length : Int)) = true := bne_iff_ne.2 (by omega)
    clear hlen
    go_enter Tryz.func38, Tryz.ntmps38
    go_wp2
    go_ret
    exact ⟨by rw [HF.out]; rfl, Below.refl _ _⟩
theorem txnSame_any (A B : Option Addr) (ca cb : Nat) (l m : List ActV) (hl : l.length ≤ maxLen) (hm : m.length ≤ maxLen) (hgl : ∀ y ∈ l, y.Good) (hgm : ∀ y ∈ m, y.Good) (w : World) (hA : ActsAt w A l) (hB : ActsAt w B m) :
    Calls Tryz.prog 11 #[.slice A l.length ca, .slice B m.length cb] w fun e w' => e = .returned (.bool (sameAs l m)) ∧ Below w.heap.size w w' := by
  have G := Lib.hid (actsEqual_any A B ca cb l m hl hm hgl hgm w hA hB)
  go_enter Tryz.func11, Tryz.ntmps11
  go_wp2_with fail
  refine G.out.mono ?_
  rintro e w1 ⟨rfl, hb⟩
  go_wp2
  go_ret
  exact ⟨rfl, hb⟩
end Go.Proofs.YtmedaimndaaiiaaGreat
