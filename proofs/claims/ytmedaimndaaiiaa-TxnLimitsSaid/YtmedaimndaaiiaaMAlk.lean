/- The landed txn's alike: two acts compared. Condition: no slice and no text is longer than memory. (Merged of 3 texts.) -/
import Derived.Test.YtmedaimndaaiiaaMTOpLen
import Derived.Test.YtmedaimndaaiiaaMRpl
import Derived.Test.YtmedaimndaaiiaaMUw
import Derived.Laws.StructEq
import Derived.Test.YtmedaimndaaiiaaMTxm
/- The landed Same, Idle, Keep of parts. Condition: no slice is longer than memory. -/
namespace Go.Proofs.Ytmedaimndaaiiaa
open Go.RowKit Go.Deep

set_option maxRecDepth 100000 in
theorem comp_eqlIn (a b x y : Int) (t u : ByteArray) (w : World) :
    (Op.equalIn 10000 29 (.agg #[.int .i64 a, .int .i64 b, .string t]) (.agg #[.int .i64 x, .int .i64 y, .string u])).run Try.prog w = .ok (a == x && (b == y && t.toList == u.toList)) w := by
  have hS : Try.prog.underlying 29 = some (.struct (Try.prog.fieldsOf 29)) := by kernel_rfl
  have hp : Try.prog.stoodInHeld 29 = false := by kernel_rfl
  have u3 := Try.underlying3
  have a3 := Try.isAgg3
  have z3 := Try.sizeOf3
  have u9 := Try.underlying9
  have a9 := Try.isAgg9
  have z9 := Try.sizeOf9
  rw [show (10000 : Nat) = 9999 + 1 from rfl, run_equalIn_agg w 9999 29 _ _ hS hp]
  simp only [Program.fieldsOf, Try.underlying29]
  cases h1 : a == x <;> cases h2 : b == y <;> cases h3 : t.toList == u.toList <;> go_simp <;> simp [h1, h2, h3]
set_option maxRecDepth 100000 in
theorem comp_neq (a b x y : Int) (t u : ByteArray) (w : World) :
    (binOp .neq 29 (.agg #[.int .i64 a, .int .i64 b, .string t]) (.agg #[.int .i64 x, .int .i64 y, .string u])).run Try.prog w = .ok (.bool (!(a == x && (b == y && t.toList == u.toList)))) w := by
  rw [run_neq_struct, comp_eqlIn]
  rfl
theorem comp_guard : Try.prog.eqGuardType Try.prog.depth 29 = false := by kernel_rfl

set_option maxHeartbeats 2000000 in
set_option maxRecDepth 100000 in
theorem slEqual_any (A B : Option Addr) (ca cb : Nat) (l m : List CompV) (hl : l.length ≤ maxLen) (hm : m.length ≤ maxLen) (hgl : ∀ y ∈ l, y.Good) (hgm : ∀ y ∈ m, y.Good) (w : World) (hA : CompsAt w A l) (hB : CompsAt w B m) :
    Calls Try.prog 52 #[.slice A l.length ca, .slice B m.length cb] w fun e w' => e = .returned (.bool (sameB l m)) ∧ Below w.heap.size w w' := by
  unfold maxLen at hl hm
  have HA := Lib.hid hA; clear hA
  have HB := Lib.hid hB; clear hB
  have HGL := Lib.hid hgl; clear hgl
  have HGM := Lib.hid hgm; clear hgm
  obtain ⟨T, HT⟩ : ∃ T, Hid (sameB l m = T) := ⟨_, Lib.hid rfl⟩
  rw [HT.out]
  by_cases hlen : l.length = m.length
  · rw [← hlen]
    have HLEN := Lib.hid hlen
    clear hlen
    go_enter Try.func52, Try.ntmps52
    go_wp2
    go_loopw [13] (fun i wr => ∃ k : Nat, k ≤ l.length ∧ i = .int .i64 k ∧ l.take k = m.take k ∧ Below w.heap.size w wr) (fun i _ => l.length - (intOf i).toNat)
    case atStart => exact ⟨0, Nat.zero_le _, rfl, rfl, Below.refl _ _⟩
    case round =>
      obtain ⟨k, hk, rfl, htk, hbel⟩ := hrel
      have HBEL := Lib.hid hbel; clear hbel
      have HTK := Lib.hid htk; clear htk
      by_cases hlt : k < l.length
      · have hlt2 : k < m.length := by have := HLEN.out; omega
        obtain ⟨b1, o1, rfl, _⟩ := HA.out.form (by omega)
        obtain ⟨b2, o2, rfl, _⟩ := HB.out.form (by omega)
        obtain ⟨x0, x1, x2⟩ := (HA.out.below HBEL.out).at_ hlt
        obtain ⟨y0, y1, y2⟩ := (HB.out.below HBEL.out).at_ hlt2
        have HYES : Hid (l[k] = m[k] → l.take (k + 1) = m.take (k + 1)) := fun h => by rw [List.take_succ_eq_append_getElem hlt, List.take_succ_eq_append_getElem hlt2, HTK.out, h]
        have HNO : Hid (l[k] ≠ m[k] → T = false) := fun h => by rw [← HT.out]; exact sameB_no fun e => h (by subst e; rfl)
        have HG1 := Lib.hid (HGL.out l[k] (List.getElem_mem hlt))
        have HG2 := Lib.hid (HGM.out m[k] (List.getElem_mem hlt2))
        generalize l[k] = c at x0 x1 x2 HYES HNO HG1
        generalize m[k] = d at y0 y1 y2 HYES HNO HG2
        clear hlt2
        obtain ⟨kd, n, tx⟩ := c
        obtain ⟨kd2, n2, tx2⟩ := d
        simp only at x0 x1 x2 y0 y1 y2
        have hgt := comp_guard
        have hcm := fun w => comp_neq kd n kd2 n2 (bstr tx) (bstr tx2) w
        have hce := fun w => comp_eqlIn kd n kd2 n2 (bstr tx) (bstr tx2) w
        by_cases he : kd = kd2 ∧ n = n2 ∧ tx = tx2
        · have HY2 := Lib.hid (HYES.out (by obtain ⟨rfl, rfl, rfl⟩ := he; rfl))
          have hv : (kd == kd2 && (n == n2 && (bstr tx).toList == (bstr tx2).toList)) = true := by obtain ⟨rfl, rfl, rfl⟩ := he; simp
          rw [hv] at hce
          replace hcm := fun w => (hcm w).trans (by rw [hv]; rfl : _ = Result.ok (.bool false) w)
          clear hv he
          go_wp2_with fail
          go_region
          go_wp2
          go_roundw
          case rel => exact ⟨k + 1, by omega, by go_num, HY2.out, HBEL.out.drew⟩
          case measure => simp [intOf]; omega
        · have HF : Hid (T = false) := HNO.out fun h => he (by injection h with h1 h2 h3; exact ⟨h1, h2, h3⟩)
          have hv : (kd == kd2 && (n == n2 && (bstr tx).toList == (bstr tx2).toList)) = false := by
            by_cases e0 : kd = kd2
            · by_cases e1 : n = n2
              · have e2 : ¬ tx = tx2 := fun e => he ⟨e0, e1, e⟩
                rw [bstr_neq fun h => e2 (bstr_inj _ _ HG1.out.2.2.1 HG2.out.2.2.1 h)]
                simp
              · rw [beq_eq_false_iff_ne.2 e1]; simp
            · rw [beq_eq_false_iff_ne.2 e0]; simp
          rw [hv] at hce
          replace hcm := fun w => (hcm w).trans (by rw [hv]; rfl : _ = Result.ok (.bool true) w)
          clear hv he
          go_wp2_with fail
          go_region
          go_wp2
          go_ret
          exact ⟨by rw [HF.out]; rfl, HBEL.out.drew⟩
      · have HF : Hid (T = true) := by
          show T = true
          rw [← HT.out]
          apply sameB_yes
          have := HTK.out
          rwa [List.take_of_length_le (by omega), List.take_of_length_le (by have := HLEN.out; omega)] at this
        go_wp2
        go_ret
        exact ⟨by rw [HF.out]; rfl, HBEL.out⟩
  · have HF : Hid (T = false) := by show T = false; rw [← HT.out]; exact sameB_no fun h => hlen (by rw [h])
    have g0 : ((l.length : Int) == (m.length : Int)) = false := beq_eq_false_iff_ne.2 (by omega)
    have g0' : ((l.length : Int) != (m.length : Int)) = true := bne_iff_ne.2 (by omega)
    clear hlen
    go_enter Try.func52, Try.ntmps52
    go_wp2
    go_ret
    exact ⟨by rw [HF.out]; rfl, Below.refl _ _⟩
theorem opSame_any (A B : Option Addr) (ca cb : Nat) (l m : List CompV) (hl : l.length ≤ maxLen) (hm : m.length ≤ maxLen) (hgl : ∀ y ∈ l, y.Good) (hgm : ∀ y ∈ m, y.Good) (w : World) (hA : CompsAt w A l) (hB : CompsAt w B m) :
    Calls Try.prog 34 #[.slice A l.length ca, .slice B m.length cb] w fun e w' => e = .returned (.bool (sameB l m)) ∧ Below w.heap.size w w' := by
  have GE := Lib.hid (slEqual_any A B ca cb l m hl hm hgl hgm w hA hB)
  obtain ⟨T, HT⟩ : ∃ T, Hid (sameB l m = T) := ⟨_, Lib.hid rfl⟩
  rw [HT.out] at GE ⊢
  clear hA hB hgl hgm
  go_enter Try.func34, Try.ntmps34
  go_wp2_with fail
  refine GE.out.mono ?_
  rintro e w1 ⟨rfl, hb1⟩
  have HB1 := Lib.hid hb1; clear hb1
  go_wp2
  go_ret
  exact ⟨rfl, HB1.out⟩

end Go.Proofs.Ytmedaimndaaiiaa

/- The landed txn's named: an act with those fields alone that its Kind names. No condition. -/
namespace Go.Proofs.Ytmedaimndaaiiaa
open Go.RowKit Go.Deep

set_option maxHeartbeats 1000000 in
set_option maxRecDepth 100000 in
theorem named_any (a : ActV) (w : World) :
    Calls Try.prog 21 #[.agg (actCells a).toArray] w fun e w' => e = .returned (.agg (actCells (aPlain a)).toArray) ∧ Below w.heap.size w w' := by
  obtain ⟨k, i, p, n, d, A, c, o⟩ := a
  by_cases h1 : k = 1
  · rw [aPlain_1 h1]
    subst h1
    unfold actCells
    go_enter Try.func21, Try.ntmps21
    go_wp2
    refine bodyPost_ret (results_cell_row rfl _ _ (w.heap.size + 1) 26 #[.int .i64 1, .int .i64 i, .int .i64 p, .string (bstr n), .bool d, .slice none 0 0] (0, 0) _ rfl (two_new _ _ _) Try.underlying26 rfl (by kernel_rfl)) rfl ?_
    exact ⟨rfl, ((Below.refl _ _).alloc (Nat.le_refl _) _).alloc (by simp) _⟩

  by_cases h2 : k = 2
  · rw [aPlain_2 h2]
    subst h2
    unfold actCells
    go_enter Try.func21, Try.ntmps21
    go_wp2
    refine bodyPost_ret (results_cell_row rfl _ _ (w.heap.size + 1) 26 #[.int .i64 2, .int .i64 i, .int .i64 0, .string (bstr []), .bool false, .slice none 0 0] (0, 0) _ rfl (two_new _ _ _) Try.underlying26 rfl (by kernel_rfl)) rfl ?_
    exact ⟨rfl, ((Below.refl _ _).alloc (Nat.le_refl _) _).alloc (by simp) _⟩

  by_cases h3 : k = 3
  · rw [aPlain_3 h3]
    subst h3
    unfold actCells
    go_enter Try.func21, Try.ntmps21
    go_wp2
    refine bodyPost_ret (results_cell_row rfl _ _ (w.heap.size + 1) 26 #[.int .i64 3, .int .i64 i, .int .i64 p, .string (bstr n), .bool false, .slice none 0 0] (0, 0) _ rfl (two_new _ _ _) Try.underlying26 rfl (by kernel_rfl)) rfl ?_
    exact ⟨rfl, ((Below.refl _ _).alloc (Nat.le_refl _) _).alloc (by simp) _⟩

  by_cases h4 : k = 4
  · rw [aPlain_4 h4]
    subst h4
    unfold actCells
    go_enter Try.func21, Try.ntmps21
    go_wp2
    refine bodyPost_ret (results_cell_row rfl _ _ (w.heap.size + 1) 26 #[.int .i64 4, .int .i64 i, .int .i64 0, .string (bstr []), .bool false, .slice A o.length c] (0, 0) _ rfl (two_new _ _ _) Try.underlying26 rfl (by kernel_rfl)) rfl ?_
    exact ⟨rfl, ((Below.refl _ _).alloc (Nat.le_refl _) _).alloc (by simp) _⟩

  · rw [aPlain_0 ⟨h1, h2, h3, h4⟩]
    have g1 : (k == 1) = false := beq_eq_false_iff_ne.2 h1
    have g2 : (k == 2) = false := beq_eq_false_iff_ne.2 h2
    have g3 : (k == 3) = false := beq_eq_false_iff_ne.2 h3
    have g4 : (k == 4) = false := beq_eq_false_iff_ne.2 h4
    clear h1 h2 h3 h4
    unfold actCells
    go_enter Try.func21, Try.ntmps21
    go_wp2
    refine bodyPost_ret (results_cell_row rfl _ _ (w.heap.size + 1) 26 #[.int .i64 k, .int .i64 0, .int .i64 0, .string (bstr []), .bool false, .slice none 0 0] (0, 0) _ rfl (two_new _ _ _) Try.underlying26 rfl (by kernel_rfl)) rfl ?_
    exact ⟨rfl, ((Below.refl _ _).alloc (Nat.le_refl _) _).alloc (by simp) _⟩

end Go.Proofs.Ytmedaimndaaiiaa

/- The landed txn's alike: two acts compared. Condition: no slice and no text is longer than memory. -/
namespace Go.Proofs.Ytmedaimndaaiiaa
open Go.RowKit Go.Deep

set_option maxHeartbeats 2000000 in
set_option maxRecDepth 100000 in
theorem alike_any (a b : ActV) (ha : a.Good) (hb : b.Good) (w : World) (hA : CompsAt w a.opsA a.ops) (hB : CompsAt w b.opsA b.ops) :
    Calls Try.prog 20 #[.agg (actCells a).toArray, .agg (actCells b).toArray] w fun e w' => e = .returned (.bool (sameA a b)) ∧ Below w.heap.size w w' := by
  have GS := Lib.hid (fun w' (h : Below w.heap.size w w') => opSame_any a.opsA b.opsA a.opsC b.opsC a.ops b.ops (by have := ha.2.2.2.2.2; unfold maxLen at *; omega) (by have := hb.2.2.2.2.2; unfold maxLen at *; omega) ha.2.2.2.2.1 hb.2.2.2.2.1 w' (hA.below h) (hB.below h))
  have hn := ha.2.2.2.1
  have hn2 := hb.2.2.2.1
  have hb2 := ((Below.refl w.heap.size w).alloc (Nat.le_refl _) (.cells (actCells a).toArray 26)).alloc (by simp) (.cells (actCells b).toArray 26)
  clear ha hb hA hB
  obtain ⟨k, i, p, n, d, A, c, o⟩ := a
  obtain ⟨k2, i2, p2, n2, d2, A2, c2, o2⟩ := b
  simp only at GS hn hn2
  by_cases h0 : k = k2
  · subst h0
    by_cases h1 : i = i2
    · subst h1
      by_cases h2 : p = p2
      · subst h2
        by_cases h3 : n = n2
        · subst h3
          by_cases h4 : d = d2
          · subst h4
            rw [show sameA ⟨k, i, p, n, d, A, c, o⟩ ⟨k, i, p, n, d, A2, c2, o2⟩ = sameB o o2 from by
              by_cases h : o = o2
              · rw [sameB_yes h]; exact sameA_yes (by simp [aKey, h])
              · rw [sameB_no h]; exact sameA_no (fun e => h (by simpa [aKey] using e))]
            generalize sameB o o2 = T at GS
            have eT : (if T = true then T else false) = T := by cases T <;> rfl
            unfold actCells at hb2 ⊢
            simp only at hb2
            go_enter Try.func20, Try.ntmps20
            go_wp2_with fail
            refine (GS.out _ hb2).mono ?_
            rintro e w2 ⟨rfl, hb3⟩
            go_wp2
            go_ret
            exact ⟨rfl, hb2.trans (hb3.mono hb2.size)⟩

          · skip
            rw [sameA_no fun e => h4 (by simp only [aKey, Prod.mk.injEq] at e; exact e.2.2.2.2.1)]
            have g : (d == d2) = false := beq_eq_false_iff_ne.2 h4
            clear h4 GS
            unfold actCells at hb2 ⊢
            go_enter Try.func20, Try.ntmps20
            go_wp2
            go_ret
            exact ⟨rfl, hb2⟩


        · skip
          rw [sameA_no fun e => h3 (by simp only [aKey, Prod.mk.injEq] at e; exact e.2.2.2.1)]
          have g : ((bstr n).toList == (bstr n2).toList) = false := bstr_neq fun h => h3 (bstr_inj _ _ hn.1 hn2.1 h)
          clear h3 GS
          unfold actCells at hb2 ⊢
          go_enter Try.func20, Try.ntmps20
          go_wp2
          go_ret
          exact ⟨rfl, hb2⟩


      · skip
        rw [sameA_no fun e => h2 (by simp only [aKey, Prod.mk.injEq] at e; exact e.2.2.1)]
        have g : (p == p2) = false := beq_eq_false_iff_ne.2 h2
        clear h2 GS
        unfold actCells at hb2 ⊢
        go_enter Try.func20, Try.ntmps20
        go_wp2
        go_ret
        exact ⟨rfl, hb2⟩


    · skip
      rw [sameA_no fun e => h1 (by simp only [aKey, Prod.mk.injEq] at e; exact e.2.1)]
      have g : (i == i2) = false := beq_eq_false_iff_ne.2 h1
      clear h1 GS
      unfold actCells at hb2 ⊢
      go_enter Try.func20, Try.ntmps20
      go_wp2
      go_ret
      exact ⟨rfl, hb2⟩


  · skip
    rw [sameA_no fun e => h0 (by simp only [aKey, Prod.mk.injEq] at e; exact e.1)]
    have g : (k == k2) = false := beq_eq_false_iff_ne.2 h0
    clear h0 GS
    unfold actCells at hb2 ⊢
    go_enter Try.func20, Try.ntmps20
    go_wp2
    go_ret
    exact ⟨rfl, hb2⟩


end Go.Proofs.Ytmedaimndaaiiaa
