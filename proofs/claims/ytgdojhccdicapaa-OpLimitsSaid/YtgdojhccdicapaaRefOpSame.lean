/- The document's own Same, Idle, Keep of parts. Condition: no slice is longer than memory. -/
import Derived.Test.YtgdojhccdicapaaOpMath
import Derived.Test.YtgdojhccdicapaaTree
import Derived.Test.YtgdojhccdicapaaLit
namespace Go.Proofs.Ytgdojhccdicapaa
open Go.RowKit Go.Deep

/-- Two edits are the same. -/
noncomputable def sameB (l m : List CompV) : Bool := @decide (l = m) (Classical.propDecidable _)
theorem sameB_yes {l m : List CompV} (h : l = m) : sameB l m = true := by unfold sameB; exact @decide_eq_true _ (Classical.propDecidable _) h
theorem sameB_no {l m : List CompV} (h : ¬ l = m) : sameB l m = false := by unfold sameB; exact @decide_eq_false _ (Classical.propDecidable _) h
theorem sameB_self (l : List CompV) : sameB l l = true := sameB_yes rfl

set_option maxHeartbeats 2000000 in
set_option maxRecDepth 100000 in
theorem refSame_any (A B : Option Addr) (ca cb : Nat) (l m : List CompV) (hl : l.length ≤ maxLen) (hm : m.length ≤ maxLen) (hgl : ∀ y ∈ l, y.Good) (hgm : ∀ y ∈ m, y.Good) (w : World) (hA : CompsAt w A l) (hB : CompsAt w B m) :
    Calls Try.prog 11 #[.slice A l.length ca, .slice B m.length cb] w fun e w' => e = .returned (.bool (sameB l m)) ∧ Below w.heap.size w w' := by
  unfold maxLen at hl hm
  have HA := Lib.hid hA; clear hA
  have HB := Lib.hid hB; clear hB
  have HGL := Lib.hid hgl; clear hgl
  have HGM := Lib.hid hgm; clear hgm
  obtain ⟨T, HT⟩ : ∃ T, Hid (sameB l m = T) := ⟨_, Lib.hid rfl⟩
  rw [HT.out]
  by_cases hlen : l.length = m.length
  · rw [← hlen]
    have HLEN := Lib.hid hlen
    clear hlen
    go_enter Try.func11, Try.ntmps11
    go_wp2
    go_loopw [5] (fun i wr => ∃ k : Nat, k ≤ l.length ∧ i = .int .i64 k ∧ l.take k = m.take k ∧ Below w.heap.size w wr) (fun i _ => l.length - (intOf i).toNat)
    case atStart => exact ⟨0, Nat.zero_le _, rfl, rfl, Below.refl _ _⟩
    case round =>
      obtain ⟨k, hk, rfl, htk, hbel⟩ := hrel
      have HBEL := Lib.hid hbel; clear hbel
      have HTK := Lib.hid htk; clear htk
      by_cases hlt : k < l.length
      · have hlt2 : k < m.length := by have := HLEN.out; omega
        obtain ⟨b1, o1, rfl, _⟩ := HA.out.form (by omega)
        obtain ⟨b2, o2, rfl, _⟩ := HB.out.form (by omega)
        obtain ⟨x0, x1, x2⟩ := (HA.out.below HBEL.out).at_ hlt
        obtain ⟨y0, y1, y2⟩ := (HB.out.below HBEL.out).at_ hlt2
        have HYES : Hid (l[k] = m[k] → l.take (k + 1) = m.take (k + 1)) := fun h => by rw [List.take_succ_eq_append_getElem hlt, List.take_succ_eq_append_getElem hlt2, HTK.out, h]
        have HNO : Hid (l[k] ≠ m[k] → T = false) := fun h => by rw [← HT.out]; exact sameB_no fun e => h (by subst e; rfl)
        have HG1 := Lib.hid (HGL.out l[k] (List.getElem_mem hlt))
        have HG2 := Lib.hid (HGM.out m[k] (List.getElem_mem hlt2))
        generalize l[k] = c at x0 x1 x2 HYES HNO HG1
        generalize m[k] = d at y0 y1 y2 HYES HNO HG2
        clear hlt2
        obtain ⟨kd, n, tx⟩ := c
        obtain ⟨kd2, n2, tx2⟩ := d
        simp only at x0 x1 x2 y0 y1 y2
        by_cases e0 : kd = kd2
        · subst e0
          by_cases e1 : n = n2
          · subst e1
            by_cases e2 : tx = tx2
            · subst e2
              go_wp2_with fail
              go_region
              go_wp2
              go_roundw
              case rel => exact ⟨k + 1, by omega, by go_num, HYES.out trivial, HBEL.out.drew⟩
              case measure => simp [intOf]; omega
            · have HF : Hid (T = false) := HNO.out fun h => e2 (by injection h)
              have g2 : ((bstr tx).toList == (bstr tx2).toList) = false := bstr_neq fun h => e2 (bstr_inj _ _ HG1.out.2.2.1 HG2.out.2.2.1 h)
              have g2' : ((bstr tx).toList != (bstr tx2).toList) = true := by rw [bne, g2]; rfl
              clear e2
              go_wp2_with fail
              go_region
              go_wp2
              go_ret
              exact ⟨by rw [HF.out]; rfl, HBEL.out.drew⟩
          · have HF : Hid (T = false) := HNO.out fun h => e1 (by injection h)
            have g1 : (n == n2) = false := beq_eq_false_iff_ne.2 e1
            have g1' : (n != n2) = true := bne_iff_ne.2 e1
            clear e1
            go_wp2_with fail
            go_region
            go_wp2
            go_ret
            exact ⟨by rw [HF.out]; rfl, HBEL.out.drew⟩
        · have HF : Hid (T = false) := HNO.out fun h => e0 (by injection h)
          have g0 : (kd == kd2) = false := beq_eq_false_iff_ne.2 e0
          have g0' : (kd != kd2) = true := bne_iff_ne.2 e0
          clear e0
          go_wp2_with fail
          go_region
          go_wp2
          go_ret
          exact ⟨by rw [HF.out]; rfl, HBEL.out.drew⟩
      · have HF : Hid (T = true) := by
          show T = true
          rw [← HT.out]
          apply sameB_yes
          have := HTK.out
          rwa [List.take_of_length_le (by omega), List.take_of_length_le (by have := HLEN.out; omega)] at this
        go_wp2
        go_ret
        exact ⟨by rw [HF.out]; rfl, HBEL.out⟩
  · have HF : Hid (T = false) := by show T = false; rw [← HT.out]; exact sameB_no fun h => hlen (by rw [h])
    have g0 : ((l.length : Int) == (m.length : Int)) = false := beq_eq_false_iff_ne.2 (by omega)
    have g0' : ((l.length : Int) != (m.length : Int)) = true := bne_iff_ne.2 (by omega)
    clear hlen
    go_enter Try.func11, Try.ntmps11
    go_wp2
    go_ret
    exact ⟨by rw [HF.out]; rfl, Below.refl _ _⟩

/-- An edit that does nothing. -/
def idleB (l : List CompV) : Bool := l.all fun c => !(c.kind == 2 || c.kind == 3)
theorem refIdle_any (A : Option Addr) (c : Nat) (l : List CompV) (hl : l.length ≤ maxLen) (w : World) (hc : CompsAt w A l) :
    Calls Try.prog 20 #[.slice A l.length c] w fun e w' => e = .returned (.bool (idleB l)) ∧ w = w' := by
  unfold maxLen at hl
  have HC := Lib.hid hc; clear hc
  obtain ⟨T, HT⟩ : ∃ T, Hid (idleB l = T) := ⟨_, Lib.hid rfl⟩
  rw [HT.out]
  go_enter Try.func20, Try.ntmps20
  go_wp2
  go_loopw [3] (fun i wr => ∃ k : Nat, k ≤ l.length ∧ i = .int .i64 k ∧ idleB (l.take k) = true ∧ w = wr) (fun i _ => l.length - (intOf i).toNat)
  case atStart => exact ⟨0, Nat.zero_le _, rfl, rfl, rfl⟩
  case round =>
    obtain ⟨k, hk, rfl, hm, rfl⟩ := hrel
    have HM := Lib.hid hm; clear hm
    by_cases hlt : k < l.length
    · obtain ⟨b, off, rfl, _⟩ := HC.out.form (by omega)
      obtain ⟨x0, _, _⟩ := HC.out.at_ hlt
      have HS := Lib.hid (show idleB (l.take (k + 1)) = !(l[k].kind == 2 || l[k].kind == 3) by
        have := HM.out
        unfold idleB at this ⊢
        rw [List.take_succ_eq_append_getElem hlt, List.all_append, this]
        simp)
      have HN : Hid ((l[k].kind == 2 || l[k].kind == 3) = true → T = false) := fun h => by
        rw [← HT.out]
        unfold idleB
        rw [List.all_eq_false]
        exact ⟨l[k], List.getElem_mem hlt, by rw [h]; simp⟩
      generalize l[k].kind = kd at x0 HS HN
      by_cases h2 : kd = 2
      · subst h2
        have HF : Hid (T = false) := HN.out rfl
        go_wp2
        go_ret
        exact ⟨by rw [HF.out]; rfl, rfl⟩
      · by_cases h3 : kd = 3
        · subst h3
          have HF : Hid (T = false) := HN.out rfl
          go_wp2
          go_ret
          exact ⟨by rw [HF.out]; rfl, rfl⟩
        · have g2 : (kd == 2) = false := beq_eq_false_iff_ne.2 h2
          have g3 : (kd == 3) = false := beq_eq_false_iff_ne.2 h3
          have HY : Hid (idleB (l.take (k + 1)) = true) := by show _ = _; rw [HS.out, g2, g3]; rfl
          clear h2 h3
          go_wp2
          go_roundw
          case rel => exact ⟨k + 1, by omega, by go_num, HY.out, trivial⟩
          case measure => simp [intOf]; omega
    · have HF : Hid (T = true) := by
        show T = true
        have := HM.out
        rwa [List.take_of_length_le (by omega), HT.out] at this
      go_wp2
      go_ret
      exact ⟨by rw [HF.out]; rfl, rfl⟩

/-- An edit that keeps all. -/
def keepL (n : Int) : List CompV := if n < 1 then [] else [⟨1, n, []⟩]
theorem refKeep_any (n : Int) (w : World) :
    Calls Try.prog 22 #[.int .i64 n] w fun e w' => ∃ A c, e = .returned (.slice A (keepL n).length c) ∧ CompsAt w' A (keepL n) ∧ Below w.heap.size w w' := by
  by_cases h : n < 1
  · have HK : Hid (keepL n = []) := if_pos h
    rw [HK.out]
    go_enter Try.func22, Try.ntmps22
    go_wp2
    go_ret
    exact ⟨none, 0, rfl, .inl rfl, Below.refl _ _⟩
  · have HK : Hid (keepL n = [⟨1, n, []⟩]) := if_neg h
    rw [HK.out]
    go_enter Try.func22, Try.ntmps22
    go_wp2
    go_ret
    refine ⟨some ⟨w.heap.size, 0, none⟩, ⟨1, rfl⟩, CellsAt.lit (fun j v hj => ?_) rfl, (Below.refl _ _).alloc (Nat.le_refl _) _⟩
    match j, hj with
    | 0, hj => cases hj; rfl
    | 1, hj => cases hj; rfl
    | 2, hj => cases hj; rfl
end Go.Proofs.Ytgdojhccdicapaa
