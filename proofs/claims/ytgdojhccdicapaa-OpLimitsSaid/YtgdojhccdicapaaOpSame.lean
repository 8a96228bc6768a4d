/- The landed Same, Idle, Keep of parts. Condition: no slice is longer than memory. -/
import Derived.Test.YtgdojhccdicapaaOpLen
import Derived.Test.YtgdojhccdicapaaRefOpSame
import Derived.Test.YtgdojhccdicapaaUtfShow
import Derived.Laws.StructEq
namespace Go.Proofs.Ytgdojhccdicapaa
open Go.RowKit Go.Deep

set_option maxRecDepth 100000 in
theorem comp_eqlIn (a b x y : Int) (t u : ByteArray) (w : World) :
    (Op.equalIn 10000 35 (.agg #[.int .i64 a, .int .i64 b, .string t]) (.agg #[.int .i64 x, .int .i64 y, .string u])).run Try.prog w = .ok (a == x && (b == y && t.toList == u.toList)) w := by
  have hS : Try.prog.underlying 35 = some (.struct (Try.prog.fieldsOf 35)) := by kernel_rfl
  have hp : Try.prog.stoodInHeld 35 = false := by kernel_rfl
  have u3 := Try.underlying3
  have a3 := Try.isAgg3
  have z3 := Try.sizeOf3
  have u9 := Try.underlying9
  have a9 := Try.isAgg9
  have z9 := Try.sizeOf9
  rw [show (10000 : Nat) = 9999 + 1 from rfl, run_equalIn_agg w 9999 35 _ _ hS hp]
  simp only [Program.fieldsOf, Try.underlying35]
  cases h1 : a == x <;> cases h2 : b == y <;> cases h3 : t.toList == u.toList <;> go_simp <;> simp [h1, h2, h3]
set_option maxRecDepth 100000 in
theorem comp_neq (a b x y : Int) (t u : ByteArray) (w : World) :
    (binOp .neq 35 (.agg #[.int .i64 a, .int .i64 b, .string t]) (.agg #[.int .i64 x, .int .i64 y, .string u])).run Try.prog w = .ok (.bool (!(a == x && (b == y && t.toList == u.toList)))) w := by
  rw [run_neq_struct, comp_eqlIn]
  rfl
theorem comp_guard : Try.prog.eqGuardType Try.prog.depth 35 = false := by kernel_rfl

set_option maxHeartbeats 2000000 in
set_option maxRecDepth 100000 in
theorem slEqual_any (A B : Option Addr) (ca cb : Nat) (l m : List CompV) (hl : l.length ≤ maxLen) (hm : m.length ≤ maxLen) (hgl : ∀ y ∈ l, y.Good) (hgm : ∀ y ∈ m, y.Good) (w : World) (hA : CompsAt w A l) (hB : CompsAt w B m) :
    Calls Try.prog 37 #[.slice A l.length ca, .slice B m.length cb] w fun e w' => e = .returned (.bool (sameB l m)) ∧ Below w.heap.size w w' := by
  unfold maxLen at hl hm
  have HA := Lib.hid hA; clear hA
  have HB := Lib.hid hB; clear hB
  have HGL := Lib.hid hgl; clear hgl
  have HGM := Lib.hid hgm; clear hgm
  obtain ⟨T, HT⟩ : ∃ T, Hid (sameB l m = T) := ⟨_, Lib.hid rfl⟩
  rw [HT.out]
  by_cases hlen : l.length = m.length
  · rw [← hlen]
    have HLEN := Lib.hid hlen
    clear hlen
    go_enter Try.func37, Try.ntmps37
    go_wp2
    go_loopw [13] (fun i wr => ∃ k : Nat, k ≤ l.length ∧ i = .int .i64 k ∧ l.take k = m.take k ∧ Below w.heap.size w wr) (fun i _ => l.length - (intOf i).toNat)
    case atStart => exact ⟨0, Nat.zero_le _, rfl, rfl, Below.refl _ _⟩
    case round =>
      obtain ⟨k, hk, rfl, htk, hbel⟩ := hrel
      have HBEL := Lib.hid hbel; clear hbel
      have HTK := Lib.hid htk; clear htk
      by_cases hlt : k < l.length
      · have hlt2 : k < m.length := by have := HLEN.out; omega
        obtain ⟨b1, o1, rfl, _⟩ := HA.out.form (by omega)
        obtain ⟨b2, o2, rfl, _⟩ := HB.out.form (by omega)
        obtain ⟨x0, x1, x2⟩ := (HA.out.below HBEL.out).at_ hlt
        obtain ⟨y0, y1, y2⟩ := (HB.out.below HBEL.out).at_ hlt2
        have HYES : Hid (l[k] = m[k] → l.take (k + 1) = m.take (k + 1)) := fun h => by rw [List.take_succ_eq_append_getElem hlt, List.take_succ_eq_append_getElem hlt2, HTK.out, h]
        have HNO : Hid (l[k] ≠ m[k] → T = false) := fun h => by rw [← HT.out]; exact sameB_no fun e => h (by subst e; rfl)
        have HG1 := Lib.hid (HGL.out l[k] (List.getElem_mem hlt))
        have HG2 := Lib.hid (HGM.out m[k] (List.getElem_mem hlt2))
        generalize l[k] = c at x0 x1 x2 HYES HNO HG1
        generalize m[k] = d at y0 y1 y2 HYES HNO HG2
        clear hlt2
        obtain ⟨kd, n, tx⟩ := c
        obtain ⟨kd2, n2, tx2⟩ := d
        simp only at x0 x1 x2 y0 y1 y2
        have hgt := comp_guard
        have hcm := fun w => comp_neq kd n kd2 n2 (bstr tx) (bstr tx2) w
        have hce := fun w => comp_eqlIn kd n kd2 n2 (bstr tx) (bstr tx2) w
        by_cases he : kd = kd2 ∧ n = n2 ∧ tx = tx2
        · have HY2 := Lib.hid (HYES.out (by obtain ⟨rfl, rfl, rfl⟩ := he; rfl))
          have hv : (kd == kd2 && (n == n2 && (bstr tx).toList == (bstr tx2).toList)) = true := by obtain ⟨rfl, rfl, rfl⟩ := he; simp
          rw [hv] at hce
          replace hcm := fun w => (hcm w).trans (by rw [hv]; rfl : _ = Result.ok (.bool false) w)
          clear hv he
          go_wp2_with fail
          go_region
          go_wp2
          go_roundw
          case rel => exact ⟨k + 1, by omega, by go_num, HY2.out, HBEL.out.drew⟩
          case measure => simp [intOf]; omega
        · have HF : Hid (T = false) := HNO.out fun h => he (by injection h with h1 h2 h3; exact ⟨h1, h2, h3⟩)
          have hv : (kd == kd2 && (n == n2 && (bstr tx).toList == (bstr tx2).toList)) = false := by
            by_cases e0 : kd = kd2
            · by_cases e1 : n = n2
              · have e2 : ¬ tx = tx2 := fun e => he ⟨e0, e1, e⟩
                rw [bstr_neq fun h => e2 (bstr_inj _ _ HG1.out.2.2.1 HG2.out.2.2.1 h)]
                simp
              · rw [beq_eq_false_iff_ne.2 e1]; simp
            · rw [beq_eq_false_iff_ne.2 e0]; simp
          rw [hv] at hce
          replace hcm := fun w => (hcm w).trans (by rw [hv]; rfl : _ = Result.ok (.bool true) w)
          clear hv he
          go_wp2_with fail
          go_region
          go_wp2
          go_ret
          exact ⟨by rw [HF.out]; rfl, HBEL.out.drew⟩
      · have HF : Hid (T = true) := by
          show T = true
          rw [← HT.out]
          apply sameB_yes
          have := HTK.out
          rwa [List.take_of_length_le (by omega), List.take_of_length_le (by have := HLEN.out; omega)] at this
        go_wp2
        go_ret
        exact ⟨by rw [HF.out]; rfl, HBEL.out⟩
  · have HF : Hid (T = false) := by show T = false; rw [← HT.out]; exact sameB_no fun h => hlen (by rw [h])
    have g0 : ((l.length : Int) == (m.length : Int)) = false := beq_eq_false_iff_ne.2 (by omega)
    have g0' : ((l.length : Int) != (m.length : Int)) = true := bne_iff_ne.2 (by omega)
    clear hlen
    go_enter Try.func37, Try.ntmps37
    go_wp2
    go_ret
    exact ⟨by rw [HF.out]; rfl, Below.refl _ _⟩
theorem opSame_any (A B : Option Addr) (ca cb : Nat) (l m : List CompV) (hl : l.length ≤ maxLen) (hm : m.length ≤ maxLen) (hgl : ∀ y ∈ l, y.Good) (hgm : ∀ y ∈ m, y.Good) (w : World) (hA : CompsAt w A l) (hB : CompsAt w B m) :
    Calls Try.prog 18 #[.slice A l.length ca, .slice B m.length cb] w fun e w' => e = .returned (.bool (sameB l m)) ∧ Below w.heap.size w w' := by
  have GE := Lib.hid (slEqual_any A B ca cb l m hl hm hgl hgm w hA hB)
  obtain ⟨T, HT⟩ : ∃ T, Hid (sameB l m = T) := ⟨_, Lib.hid rfl⟩
  rw [HT.out] at GE ⊢
  clear hA hB hgl hgm
  go_enter Try.func18, Try.ntmps18
  go_wp2_with fail
  refine GE.out.mono ?_
  rintro e w1 ⟨rfl, hb1⟩
  have HB1 := Lib.hid hb1; clear hb1
  go_wp2
  go_ret
  exact ⟨rfl, HB1.out⟩

/-- A part puts in or deletes. -/
theorem idle1_any (k n : Int) (t : ByteArray) (w : World) :
    Calls Try.prog 39 #[.agg #[.int .i64 k, .int .i64 n, .string t]] w fun e w' => e = .returned (.bool (k == 2 || k == 3)) ∧ Below w.heap.size w w' := by
  by_cases h2 : k = 2
  · subst h2
    go_enter Try.func39, Try.ntmps39
    go_wp2
    go_ret
    exact ⟨rfl, (Below.refl _ _).alloc (Nat.le_refl _) _⟩
  · by_cases h3 : k = 3
    · subst h3
      go_enter Try.func39, Try.ntmps39
      go_wp2
      go_ret
      exact ⟨rfl, (Below.refl _ _).alloc (Nat.le_refl _) _⟩
    · have g2 : (k == 2) = false := beq_eq_false_iff_ne.2 h2
      have g3 : (k == 3) = false := beq_eq_false_iff_ne.2 h3
      rw [g2, g3]
      clear h2 h3
      go_enter Try.func39, Try.ntmps39
      go_wp2
      go_ret
      exact ⟨rfl, (Below.refl _ _).alloc (Nat.le_refl _) _⟩
set_option maxHeartbeats 1000000 in
set_option maxRecDepth 100000 in
theorem slIndexFunc_any (A : Option Addr) (c : Nat) (l : List CompV) (hl : l.length ≤ maxLen) (w : World) (hc : CompsAt w A l) :
    Calls Try.prog 48 #[.slice A l.length c, .func (.func 39) #[] #[]] w fun e w' =>
      ((idleB l = true ∧ e = .returned (.int .i64 (-1))) ∨ (idleB l = false ∧ ∃ k : Nat, e = .returned (.int .i64 (k : Int)))) ∧ Below w.heap.size w w' := by
  unfold maxLen at hl
  have hk := enters_of_func Try.func39 (by kernel_rfl) rfl
  have HC := Lib.hid hc; clear hc
  go_enter Try.func48, Try.ntmps48
  go_wp2
  go_loopw [8] (fun i wr => ∃ k : Nat, k ≤ l.length ∧ i = .int .i64 k ∧ idleB (l.take k) = true ∧ Below w.heap.size w wr) (fun i _ => l.length - (intOf i).toNat)
  case atStart => exact ⟨0, Nat.zero_le _, rfl, rfl, Below.refl _ _⟩
  case round =>
    obtain ⟨k, hkl, rfl, hm, hbel⟩ := hrel
    have HM := Lib.hid hm; clear hm
    have HBEL := Lib.hid hbel; clear hbel
    by_cases hlt : k < l.length
    · obtain ⟨b, off, rfl, _⟩ := HC.out.form (by omega)
      obtain ⟨x0, x1, x2⟩ := (HC.out.below HBEL.out).at_ hlt
      have HS := Lib.hid (show idleB (l.take (k + 1)) = !(l[k].kind == 2 || l[k].kind == 3) by
        have := HM.out
        unfold idleB at this ⊢
        rw [List.take_succ_eq_append_getElem hlt, List.all_append, this]
        simp)
      have HN : Hid ((l[k].kind == 2 || l[k].kind == 3) = true → idleB l = false) := fun h => by
        unfold idleB
        rw [List.all_eq_false]
        exact ⟨l[k], List.getElem_mem hlt, by rw [h]; simp⟩
      generalize l[k] = y at x0 x1 x2 HS HN
      obtain ⟨kd, n, tx⟩ := y
      simp only at x0 x1 x2 HS HN
      have GI := Lib.hid (fun w => idle1_any kd n (bstr tx) w)
      generalize (kd == 2 || kd == 3) = r at HS HN GI
      go_wp2_with fail
      refine (GI.out _).mono ?_
      rintro e w1 ⟨rfl, hb1⟩
      have HB1 : Hid (Below w.heap.size w w1) := HBEL.out.trans (hb1.mono HBEL.out.size)
      clear hb1
      cases r with
      | true =>
        have HF := Lib.hid (HN.out rfl)
        go_wp2
        go_ret
        exact ⟨.inr ⟨HF.out, k, rfl⟩, HB1.out⟩
      | false =>
        have HY : Hid (idleB (l.take (k + 1)) = true) := by show _ = _; rw [HS.out]; rfl
        go_wp2
        go_roundw
        case rel => exact ⟨k + 1, by omega, by go_num, HY.out, HB1.out⟩
        case measure => simp [intOf]; omega
    · have HF : Hid (idleB l = true) := by
        show _ = true
        have := HM.out
        rwa [List.take_of_length_le (by omega)] at this
      go_wp2
      go_ret
      exact ⟨.inl ⟨HF.out, rfl⟩, HBEL.out⟩
theorem slContains_any (A : Option Addr) (c : Nat) (l : List CompV) (hl : l.length ≤ maxLen) (w : World) (hc : CompsAt w A l) :
    Calls Try.prog 38 #[.slice A l.length c, .func (.func 39) #[] #[]] w fun e w' => e = .returned (.bool (!idleB l)) ∧ Below w.heap.size w w' := by
  have GE := Lib.hid (slIndexFunc_any A c l hl w hc)
  obtain ⟨T, HT⟩ : ∃ T, Hid (idleB l = T) := ⟨_, Lib.hid rfl⟩
  rw [HT.out] at GE ⊢
  clear hc
  go_enter Try.func38, Try.ntmps38
  go_wp2_with fail
  refine GE.out.mono ?_
  rintro e w1 ⟨⟨rfl, rfl⟩ | ⟨rfl, k, rfl⟩, hb1⟩
  · have HB1 := Lib.hid hb1; clear hb1
    go_wp2
    go_ret
    exact ⟨rfl, HB1.out⟩
  · have HB1 := Lib.hid hb1; clear hb1
    have hk0 : (0 : Int) ≤ (k : Int) := by omega
    go_wp2
    go_ret
    exact ⟨rfl, HB1.out⟩
theorem opIdle_any (A : Option Addr) (c : Nat) (l : List CompV) (hl : l.length ≤ maxLen) (w : World) (hc : CompsAt w A l) :
    Calls Try.prog 19 #[.slice A l.length c] w fun e w' => e = .returned (.bool (idleB l)) ∧ Below w.heap.size w w' := by
  have GE := Lib.hid (slContains_any A c l hl w hc)
  obtain ⟨T, HT⟩ : ∃ T, Hid (idleB l = T) := ⟨_, Lib.hid rfl⟩
  rw [HT.out] at GE ⊢
  clear hc
  go_enter Try.func19, Try.ntmps19
  go_wp2_with fail
  refine GE.out.mono ?_
  rintro e w1 ⟨rfl, hb1⟩
  have HB1 := Lib.hid hb1; clear hb1
  cases T with
  | true =>
    go_wp2
    go_ret
    exact ⟨rfl, HB1.out⟩
  | false =>
    go_wp2
    go_ret
    exact ⟨rfl, HB1.out⟩

theorem opKeep_any (n : Int) (w : World) :
    Calls Try.prog 21 #[.int .i64 n] w fun e w' => ∃ A c, e = .returned (.slice A (keepL n).length c) ∧ CompsAt w' A (keepL n) ∧ Below w.heap.size w w' := by
  by_cases h : n < 1
  · have HK : Hid (keepL n = []) := if_pos h
    rw [HK.out]
    go_enter Try.func21, Try.ntmps21
    go_wp2
    go_ret
    exact ⟨none, 0, rfl, .inl rfl, Below.refl _ _⟩
  · have HK : Hid (keepL n = [⟨1, n, []⟩]) := if_neg h
    rw [HK.out]
    have GR := Lib.hid (fun w => opRetain_any n w)
    go_enter Try.func21, Try.ntmps21
    go_wp2_with fail
    refine (GR.out _).mono ?_
    rintro e w1 ⟨rfl, hb1⟩
    have HB1 := Lib.hid hb1; clear hb1
    go_wp2
    go_ret
    refine ⟨some ⟨w1.heap.size, 0, none⟩, 1, rfl, CellsAt.lit (fun j v hj => ?_) rfl, HB1.out.alloc HB1.out.size _⟩
    match j, hj with
    | 0, hj => cases hj; rfl
    | 1, hj => cases hj; rfl
    | 2, hj => cases hj; rfl
end Go.Proofs.Ytgdojhccdicapaa
