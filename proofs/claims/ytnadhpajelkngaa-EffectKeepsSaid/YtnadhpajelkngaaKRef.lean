/- What Do answers, as functions of what came in: its error, its text. Condition: no more than 2^30 bytes of text. (Merged of 13 texts.) -/
import Derived.Test.YtnadhpajelkngaaKEdit
import Derived.Test.YtnadhpajelkngaaKPt
import Derived.Test.YtnadhpajelkngaaKUm
import Derived.Test.YtnadhpajelkngaaKBase
import Derived.Test.YtnadhpajelkngaaKCells
import Derived.Deep.DeepAppendWide
import Derived.Deep.DeepCutAuto
/- The document's own check of normal parts. Condition: no slice is longer than memory, no text longer than 2^40 bytes. -/
namespace Go.Proofs.Ytnadhpajelkngaa
open Go.RowKit Go.Deep

set_option maxHeartbeats 4000000 in
set_option maxRecDepth 100000 in
theorem refNormal0_any (A : Option Addr) (c : Nat) (l : List CompV) (hl : l.length ≤ maxLen) (hf : Fine1 l) (w : World) (hc : CompsAt w A l) :
    Calls Try.prog 35 #[.slice A l.length c] w fun e w' => e = .returned (.bool (nrmB l)) ∧ Below w.heap.size w w' := by
  unfold maxLen at hl
  have HC := Lib.hid hc; clear hc
  have HF := Lib.hid hf; clear hf
  obtain ⟨T, HT⟩ : ∃ T, Hid (nrmB l = T) := ⟨_, Lib.hid rfl⟩
  rw [HT.out]
  go_enter Try.func35, Try.ntmps35
  go_wp2
  go_loopw [3] (fun i wr => ∃ k : Nat, k ≤ l.length ∧ i = .int .i64 k ∧ (∀ i c, i < k → l[i]? = some c → NormAt l i c) ∧ Below w.heap.size w wr) (fun i _ => l.length - (intOf i).toNat)
  case atStart => exact ⟨0, Nat.zero_le _, rfl, fun i c h => by omega, Below.refl _ _⟩
  case round =>
    obtain ⟨k, hk, rfl, hn, hbel⟩ := hrel
    have HN := Lib.hid hn; clear hn
    have HBEL := Lib.hid hbel; clear hbel
    by_cases hlt : k < l.length
    · obtain ⟨b, off, rfl, _⟩ := HC.out.form (by omega)
      obtain ⟨x0, x1, x2⟩ := (HC.out.below HBEL.out).at_ hlt
      have HGET : Hid (l[k]? = some l[k]) := List.getElem?_eq_getElem hlt
      have HY := Lib.hid (HF.out l[k] (List.getElem_mem hlt))
      generalize l[k] = y at x0 x1 x2 HGET HY
      have HNO : Hid (¬ NormAt l k y → T = false) := fun h => by rw [← HT.out]; exact nrmB_no fun g => h (g k y HGET.out)
      have HYES : Hid (NormAt l k y → ∀ i c, i < k + 1 → l[i]? = some c → NormAt l i c) := fun h i c hi hc => by
        by_cases e : i = k
        · subst e
          rw [HGET.out] at hc
          injection hc with hc
          subst hc
          exact h
        · exact HN.out i c (by omega) hc
      obtain ⟨kd, n, tx⟩ := y
      simp only at x0 x1 x2
      have hnew : Below wr.heap.size wr (wr.alloc (Obj.cells #[Value.int .i64 kd, Value.int .i64 n, Value.string (bstr tx)] 54)) := (Below.refl _ _).alloc (Nat.le_refl _) _
      have HB1 : Hid (Below w.heap.size w (wr.alloc (Obj.cells #[Value.int .i64 kd, Value.int .i64 n, Value.string (bstr tx)] 54))) := HBEL.out.trans (hnew.mono HBEL.out.size)
      clear hnew
      have hsz := bstr_size tx
      have hnew : Below wr.heap.size wr (wr.alloc (Obj.cells #[Value.int .i64 kd, Value.int .i64 n, Value.string (bstr tx)] 54)) := (Below.refl _ _).alloc (Nat.le_refl _) _
      have HB1 : Hid (Below w.heap.size w (wr.alloc (Obj.cells #[Value.int .i64 kd, Value.int .i64 n, Value.string (bstr tx)] 54))) := HBEL.out.trans (hnew.mono HBEL.out.size)
      clear hnew
      have hsz := bstr_size tx
      by_cases h13 : kd = 1 ∨ kd = 3
      · have g2 : (kd == 2) = false := beq_eq_false_iff_ne.2 (by omega)
        by_cases hn1 : 1 ≤ n
        · have hn1' : ¬ n < 1 := by omega
          by_cases htx : tx = []
          · subst htx
            have hte := empty_yes
            by_cases hkz : k = 0
            · have hk0 : ¬ 0 < k := by omega
              have HOK : Hid (NormAt l k ⟨kd, n, []⟩) := ⟨.inl ⟨h13, hn1, rfl⟩, fun p h _ => absurd h hk0⟩
              clear hkz
              rcases h13 with rfl | rfl
              · go_wp2_with fail
                go_region
                go_wp2
                go_roundw
                case rel => exact ⟨k + 1, by omega, by go_num, HYES.out HOK.out, HB1.out.drew⟩
                case measure => simp [intOf]; omega
              · go_wp2_with fail
                go_region
                go_wp2
                go_roundw
                case rel => exact ⟨k + 1, by omega, by go_num, HYES.out HOK.out, HB1.out.drew⟩
                case measure => simp [intOf]; omega
            · obtain ⟨j, HJ⟩ : ∃ j, Hid (k = j + 1) := ⟨k - 1, by show k = k - 1 + 1; omega⟩
              have hjl : j < l.length := by have := HJ.out; omega
              have hk1 : (k : Int) - 1 = (j : Int) := by have := HJ.out; omega
              have hkp : 0 < k := by omega
              have HP : Hid (l[k - 1]? = some l[j]) := by show _ = _; rw [HJ.out]; exact List.getElem?_eq_getElem hjl
              obtain ⟨p0, _, _⟩ := (HC.out.below HB1.out).at_ hjl
              generalize l[j] = p at p0 HP
              obtain ⟨pk, pn, ptx⟩ := p
              simp only at p0
              by_cases hpk : pk = kd
              · have HFA : Hid (T = false) := HNO.out fun h => h.2 _ hkp HP.out hpk
                have gq : (pk == kd) = true := beq_iff_eq.2 hpk
                subst hpk
                rcases h13 with rfl | rfl
                · go_wp2_with fail
                  go_region
                  go_wp2_with fail
                  go_ret
                  exact ⟨by rw [HFA.out]; rfl, HB1.out.drew⟩
                · go_wp2_with fail
                  go_region
                  go_wp2_with fail
                  go_ret
                  exact ⟨by rw [HFA.out]; rfl, HB1.out.drew⟩
              · have HOK : Hid (NormAt l k ⟨kd, n, []⟩) := ⟨.inl ⟨h13, hn1, rfl⟩, fun p h hp => by
                  rw [HP.out] at hp
                  injection hp with hp
                  subst hp
                  exact hpk⟩
                have gq : (pk == kd) = false := beq_eq_false_iff_ne.2 hpk
                clear hpk
                rcases h13 with rfl | rfl
                · go_wp2_with fail
                  go_region
                  go_wp2
                  go_roundw
                  case rel => exact ⟨k + 1, by omega, by go_num, HYES.out HOK.out, HB1.out.drew⟩
                  case measure => simp [intOf]; omega
                · go_wp2_with fail
                  go_region
                  go_wp2
                  go_roundw
                  case rel => exact ⟨k + 1, by omega, by go_num, HYES.out HOK.out, HB1.out.drew⟩
                  case measure => simp [intOf]; omega
          · have HFA : Hid (T = false) := HNO.out fun h => by
              rcases h.1 with h | h
              · exact htx h.2.2
              · rcases h13 with e | e <;> (have := h.1; simp only at this; omega)
            have hte := empty_no htx
            clear htx
            rcases h13 with rfl | rfl
            · go_wp2_with fail
              go_ret
              exact ⟨by rw [HFA.out]; rfl, HB1.out⟩
            · go_wp2_with fail
              go_ret
              exact ⟨by rw [HFA.out]; rfl, HB1.out⟩
        · have HFA : Hid (T = false) := HNO.out fun h => by
            rcases h.1 with h | h
            · exact hn1 h.2.1
            · rcases h13 with e | e <;> (have := h.1; simp only at this; omega)
          have hn1' : n < 1 := by omega
          clear hn1
          rcases h13 with rfl | rfl
          · go_wp2_with fail
            go_ret
            exact ⟨by rw [HFA.out]; rfl, HB1.out⟩
          · go_wp2_with fail
            go_ret
            exact ⟨by rw [HFA.out]; rfl, HB1.out⟩
      · have g1 : (kd == 1) = false := beq_eq_false_iff_ne.2 (by omega)
        have g3 : (kd == 3) = false := beq_eq_false_iff_ne.2 (by omega)
        by_cases h2 : kd = 2
        · subst h2
          clear g1 g3 h13
          by_cases hn0 : n = 0
          · subst hn0
            by_cases htx : tx = []
            · have HFA : Hid (T = false) := HNO.out fun h => by
                rcases h.1 with h | h
                · rcases h.1 with e | e <;> (simp only at e; omega)
                · exact h.2.2.1 htx
              subst htx
              have hte := empty_yes
              go_wp2_with fail
              go_ret
              exact ⟨by rw [HFA.out]; rfl, HB1.out⟩
            · have hte := empty_no htx
              have GV := Lib.hid (refValid_any tx HY.out.1.2.2.1 HY.out.2 (wr.alloc (Obj.cells #[Value.int .i64 2, Value.int .i64 0, Value.string (bstr tx)] 54)))
              by_cases hv : ∃ vs, V tx vs
              · obtain ⟨vs, hvs⟩ := hv
                rw [validB_yes hvs] at GV
                have HVS := Lib.hid hvs; clear hvs
                by_cases hkz : k = 0
                · have hk0 : ¬ 0 < k := by omega
                  have HOK : Hid (NormAt l k ⟨2, 0, tx⟩) := ⟨.inr ⟨rfl, rfl, htx, ⟨vs, HVS.out⟩, fun p h _ => absurd h hk0⟩, fun p h _ => absurd h hk0⟩
                  clear htx hkz
                  go_wp2_with fail
                  refine GV.out.mono ?_
                  rintro e w2 ⟨rfl, hb2⟩
                  have HB2 : Hid (Below w.heap.size w w2) := HB1.out.trans (hb2.mono HB1.out.size)
                  have hc0 : w2.cell? ⟨wr.heap.size, 0, none⟩ = some (.int .i64 2) := by
                    refine (hb2.cell (p := ⟨wr.heap.size, 0, none⟩) (by simp)).trans ?_
                    rw [cell_of_row _ _ _ _ _ _ (heap_alloc_new wr _)]
                    rfl
                  clear hb2
                  go_wp2_with fail
                  go_region
                  go_wp2
                  go_roundw
                  case rel => exact ⟨k + 1, by omega, by go_num, HYES.out HOK.out, HB2.out.drew⟩
                  case measure => simp [intOf]; omega
                · obtain ⟨j, HJ⟩ : ∃ j, Hid (k = j + 1) := ⟨k - 1, by show k = k - 1 + 1; omega⟩
                  have hjl : j < l.length := by have := HJ.out; omega
                  have hk1 : (k : Int) - 1 = (j : Int) := by have := HJ.out; omega
                  have hkp : 0 < k := by omega
                  have HP : Hid (l[k - 1]? = some l[j]) := by show _ = _; rw [HJ.out]; exact List.getElem?_eq_getElem hjl
                  go_wp2_with fail
                  refine GV.out.mono ?_
                  rintro e w2 ⟨rfl, hb2⟩
                  have HB2 : Hid (Below w.heap.size w w2) := HB1.out.trans (hb2.mono HB1.out.size)
                  have hc0 : w2.cell? ⟨wr.heap.size, 0, none⟩ = some (.int .i64 2) := by
                    refine (hb2.cell (p := ⟨wr.heap.size, 0, none⟩) (by simp)).trans ?_
                    rw [cell_of_row _ _ _ _ _ _ (heap_alloc_new wr _)]
                    rfl
                  clear hb2
                  obtain ⟨p0, _, _⟩ := (HC.out.below HB2.out).at_ hjl
                  generalize l[j] = p at p0 HP
                  obtain ⟨pk, pn, ptx⟩ := p
                  simp only at p0
                  by_cases hp3 : pk = 3
                  · subst hp3
                    have HFA : Hid (T = false) := HNO.out fun h => by
                      rcases h.1 with h | h
                      · rcases h.1 with e | e <;> (simp only at e; omega)
                      · exact h.2.2.2.2 _ hkp HP.out rfl
                    clear htx
                    go_wp2_with fail
                    go_ret
                    exact ⟨by rw [HFA.out]; rfl, HB2.out⟩
                  · have gp3 : (pk == 3) = false := beq_eq_false_iff_ne.2 hp3
                    by_cases hp2 : pk = 2
                    · subst hp2
                      have HFA : Hid (T = false) := HNO.out fun h => h.2 _ hkp HP.out rfl
                      clear hp3 gp3 htx
                      go_wp2_with fail
                      go_region
                      go_wp2_with fail
                      go_ret
                      exact ⟨by rw [HFA.out]; rfl, HB2.out.drew⟩
                    · have gp2 : (pk == 2) = false := beq_eq_false_iff_ne.2 hp2
                      have HOK : Hid (NormAt l k ⟨2, 0, tx⟩) := ⟨.inr ⟨rfl, rfl, htx, ⟨vs, HVS.out⟩, fun p h hp => by
                        rw [HP.out] at hp
                        injection hp with hp
                        subst hp
                        exact hp3⟩, fun p h hp => by
                        rw [HP.out] at hp
                        injection hp with hp
                        subst hp
                        exact hp2⟩
                      clear hp3 hp2 htx
                      go_wp2_with fail
                      go_region
                      go_wp2
                      go_roundw
                      case rel => exact ⟨k + 1, by omega, by go_num, HYES.out HOK.out, HB2.out.drew⟩
                      case measure => simp [intOf]; omega
              · have HFA : Hid (T = false) := HNO.out fun h => by
                  rcases h.1 with h | h
                  · rcases h.1 with e | e <;> (simp only at e; omega)
                  · exact hv h.2.2.2.1
                rw [validB_no hv] at GV
                clear htx
                go_wp2_with fail
                refine GV.out.mono ?_
                rintro e w2 ⟨rfl, hb2⟩
                have HB2 : Hid (Below w.heap.size w w2) := HB1.out.trans (hb2.mono HB1.out.size)
                clear hb2
                go_wp2_with fail
                go_ret
                exact ⟨by rw [HFA.out]; rfl, HB2.out⟩
          · have HFA : Hid (T = false) := HNO.out fun h => by
              rcases h.1 with h | h
              · rcases h.1 with e | e <;> (simp only at e; omega)
              · exact hn0 h.2.1
            have gn : (n == 0) = false := beq_eq_false_iff_ne.2 hn0
            have gn' : (n != 0) = true := bne_iff_ne.2 hn0
            clear hn0
            go_wp2_with fail
            go_ret
            exact ⟨by rw [HFA.out]; rfl, HB1.out⟩
        · have HFA : Hid (T = false) := HNO.out fun h => by
            rcases h.1 with h | h
            · exact h13 h.1
            · exact h2 h.1
          have g2 : (kd == 2) = false := beq_eq_false_iff_ne.2 h2
          clear h2 h13
          go_wp2_with fail
          go_ret
          exact ⟨by rw [HFA.out]; rfl, HB1.out⟩
    · have HE : Hid (T = true) := by
        show T = true
        rw [← HT.out]
        exact nrmB_yes fun i c hc => HN.out i c (by have := (List.getElem?_eq_some_iff.1 hc).1; omega) hc
      go_wp2
      go_ret
      exact ⟨by rw [HE.out]; rfl, HBEL.out⟩
end Go.Proofs.Ytnadhpajelkngaa

/- The document's own Loose, held, Base, Out. Condition: no text of more than 2^40 bytes. -/
namespace Go.Proofs.Ytnadhpajelkngaa
open Go.RowKit Go.Deep

set_option maxRecDepth 100000 in
theorem refLoose_any (l : List Nat) (hb : ∀ x ∈ l, x < 256) (hl : l.length ≤ 1099511627776) (w : World) :
    Calls Try.prog 50 #[.string (bstr l)] w fun e w' => e = .returned (.int .i64 (loose l : Int)) ∧ w = w' := by
  have HP := Lib.hid (fun i hi w => refPoint_any l hb hl i hi w)
  have HB := Lib.hid hb; clear hb
  have hsz := bstr_size l
  obtain ⟨T, HT⟩ : ∃ T, Hid (loose l = T) := ⟨_, Lib.hid rfl⟩
  have HTL : Hid (T ≤ l.length) := by show _ ≤ _; rw [← HT.out]; exact loose_le l
  rw [HT.out]
  go_enter Try.func50, Try.ntmps50
  go_wp2
  go_loopw [3, 4] (fun k i wr => ∃ p q : Nat, p ≤ l.length ∧ i = .int .i64 p ∧ k = .int .i64 q ∧ q + loose (l.drop p) = T ∧ w = wr) (fun _ i _ => l.length - (intOf i).toNat)
  case atStart => exact ⟨0, 0, Nat.zero_le _, rfl, rfl, by rw [Nat.zero_add]; exact HT.out, rfl⟩
  case round =>
    obtain ⟨p, q, hp, rfl, rfl, hq, rfl⟩ := hrel
    have HQ := Lib.hid hq; clear hq
    by_cases hlt : p < l.length
    · obtain ⟨c, t, hd⟩ : ∃ c t, l.drop p = c :: t := ⟨l[p], l.drop (p + 1), List.drop_eq_getElem_cons hlt⟩
      have hix := fun w => byte_at HB.out hd w
      have hne : l.drop p ≠ [] := by rw [hd]; simp
      have hs1 := lseStep_pos (l.drop p)
      have hs2 := lseStep_le hne
      rw [List.length_drop] at hs2
      have HN := Lib.hid (loose_next hne)
      rw [List.drop_drop] at HN
      have HPT := Lib.hid (fun w => HP.out p hlt w)
      obtain ⟨s, HS⟩ : ∃ s, Hid (lseStep (l.drop p) = s) := ⟨_, Lib.hid rfl⟩
      rw [HS.out] at hs1 hs2 HN
      have HQ2 : Hid (q + 1 + loose (l.drop (p + s)) = T) := by show _ = _; have := HQ.out; rw [HN.out] at this; omega
      have hqt : q < 1099511627776 := by have := HQ2.out; have := HTL.out; omega
      have hpl : p + s ≤ l.length := by omega
      clear hne
      have HD := Lib.hid hd
      clear hd
      by_cases h0 : c = 0
      · subst h0
        have hs : s = 1 := by
          rw [← HS.out, lseStep, HD.out, show st (0 :: t) = none by rw [st_cons, if_pos (by omega), fur_zero, if_pos (.inr (by unfold May; omega))]]
        subst hs
        go_wp2
        go_roundw
        case rel => exact ⟨p + 1, q + 1, hpl, by go_num, by go_num, HQ2.out, trivial⟩
        case measure => simp [intOf]; omega
      · have hc : (c == 0) = false := beq_eq_false_iff_ne.2 h0
        go_wp2_with fail
        refine (HPT.out _).mono ?_
        rintro e w1 ⟨⟨v, t2, hst, rfl⟩ | ⟨hst, rfl⟩, rfl⟩
        · have hs : (enc v).length = s := by rw [← HS.out, lseStep, hst]
          rw [hs]
          clear hst hs
          have hmax : max (s : Int) 1 = (s : Int) := by omega
          go_wp2
          go_roundw
          case rel => exact ⟨p + s, q + 1, hpl, by go_num, by go_num, HQ2.out, trivial⟩
          case measure => simp [intOf]; omega
        · have hs : s = 1 := by rw [← HS.out, lseStep, hst]
          subst hs
          clear hst
          go_wp2
          go_roundw
          case rel => exact ⟨p + 1, q + 1, hpl, by go_num, by go_num, HQ2.out, trivial⟩
          case measure => simp [intOf]; omega
    · have HE : Hid (q = T) := by
        show q = T
        have := HQ.out
        rw [List.drop_eq_nil_of_le (by omega), loose_nil] at this
        omega
      go_wp2
      go_ret
      exact ⟨by rw [← HE.out]; rfl, rfl⟩

theorem refHeld_any (a b : Int) (w : World) :
    Calls Try.prog 41 #[.int .i64 a, .int .i64 b] w fun e w' => e = .returned (.int .i64 (hld a b)) ∧ w = w' := by
  rcases (show a < 0 ∨ (0 ≤ a ∧ a ≤ 1099511627776) ∨ 1099511627776 < a by omega) with h | ⟨h, h'⟩ | h <;> rcases (show b < 0 ∨ (0 ≤ b ∧ b ≤ 1099511627776) ∨ 1099511627776 < b by omega) with g | ⟨g, g'⟩ | g <;>
    rcases (show a + b ≤ 1099511627776 ∨ 1099511627776 < a + b by omega) with k | k <;>
    · go_enter Try.func41, Try.ntmps41
      go_wp2
      all_goals
        go_ret
        refine ⟨Eq.trans (b := Ending.returned (.int .i64 _)) rfl (congrArg (fun n : Int => Ending.returned (.int .i64 n)) ?_), rfl⟩
        unfold hld
        omega

/-- Base, Out. -/
theorem refBase_any (A : Option Addr) (c : Nat) (l : List CompV) (hl : l.length ≤ maxLen) (w : World) (hc : CompsAt w A l) :
    Calls Try.prog 24 #[.slice A l.length c] w fun e w' => e = .returned (.int .i64 (rBase l)) ∧ w = w' := by
  unfold maxLen at hl
  have HC := Lib.hid hc; clear hc
  have GH := Lib.hid (fun a b w => refHeld_any a b w)
  obtain ⟨T, HT⟩ : ∃ T, Hid (rBase l = T) := ⟨_, Lib.hid rfl⟩
  rw [HT.out]
  go_enter Try.func24, Try.ntmps24
  go_wp2
  go_loopw [3, 4] (fun n i wr => ∃ (k : Nat) (m : Int), k ≤ l.length ∧ i = .int .i64 k ∧ n = .int .i64 m ∧ rBase (l.take k) = m ∧ w = wr) (fun _ i _ => l.length - (intOf i).toNat)
  case atStart => exact ⟨0, 0, Nat.zero_le _, rfl, rfl, rfl, rfl⟩
  case round =>
    obtain ⟨k, m, hk, rfl, rfl, hm, rfl⟩ := hrel
    have HM := Lib.hid hm; clear hm
    by_cases hlt : k < l.length
    · obtain ⟨b, off, rfl, _⟩ := HC.out.form (by omega)
      obtain ⟨x0, x1, _⟩ := HC.out.at_ hlt
      have HS := Lib.hid (show rBase (l.take (k + 1)) = baseStep m l[k] by rw [List.take_succ_eq_append_getElem hlt, rBase_snoc, HM.out])
      generalize l[k] = y at x0 x1 HS
      obtain ⟨kd, n, tx⟩ := y
      simp only at x0 x1
      by_cases h1 : kd = 1 ∨ kd = 3
      · rw [baseStep, if_pos h1] at HS
        have HH := Lib.hid (fun w => GH.out m n w)
        obtain ⟨q, HQ⟩ : ∃ q, Hid (hld m n = q) := ⟨_, Lib.hid rfl⟩
        have HS2 : Hid (rBase (l.take (k + 1)) = q) := by show _ = _; rw [HS.out]; exact HQ.out
        rw [HQ.out] at HH
        rcases h1 with rfl | rfl
        · go_wp2_with fail
          refine (HH.out _).mono ?_
          rintro e w1 ⟨rfl, rfl⟩
          go_wp2
          go_roundw
          case rel => exact ⟨k + 1, q, by omega, by go_num, rfl, HS2.out, trivial⟩
          case measure => simp [intOf]; omega
        · go_wp2_with fail
          refine (HH.out _).mono ?_
          rintro e w1 ⟨rfl, rfl⟩
          go_wp2
          go_roundw
          case rel => exact ⟨k + 1, q, by omega, by go_num, rfl, HS2.out, trivial⟩
          case measure => simp [intOf]; omega
      · have g1 : (kd == 1) = false := beq_eq_false_iff_ne.2 fun h => h1 (.inl h)
        have g3 : (kd == 3) = false := beq_eq_false_iff_ne.2 fun h => h1 (.inr h)
        rw [baseStep, if_neg h1] at HS
        clear h1
        go_wp2
        go_roundw
        case rel => exact ⟨k + 1, m, by omega, by go_num, rfl, HS.out, trivial⟩
        case measure => simp [intOf]; omega
    · have HE : Hid (m = T) := by show _ = _; rw [← HM.out, List.take_of_length_le (by omega), HT.out]
      go_wp2
      go_ret
      exact ⟨by rw [← HE.out]; rfl, rfl⟩
theorem refOut_any (A : Option Addr) (c : Nat) (l : List CompV) (hl : l.length ≤ maxLen) (hf : Fine1 l) (w : World) (hc : CompsAt w A l) :
    Calls Try.prog 36 #[.slice A l.length c] w fun e w' => e = .returned (.int .i64 (rOut l)) ∧ w = w' := by
  unfold maxLen at hl
  have HC := Lib.hid hc; clear hc
  have HF := Lib.hid hf; clear hf
  have GH := Lib.hid (fun a b w => refHeld_any a b w)
  obtain ⟨T, HT⟩ : ∃ T, Hid (rOut l = T) := ⟨_, Lib.hid rfl⟩
  rw [HT.out]
  go_enter Try.func36, Try.ntmps36
  go_wp2
  go_loopw [3, 4] (fun n i wr => ∃ (k : Nat) (m : Int), k ≤ l.length ∧ i = .int .i64 k ∧ n = .int .i64 m ∧ rOut (l.take k) = m ∧ w = wr) (fun _ i _ => l.length - (intOf i).toNat)
  case atStart => exact ⟨0, 0, Nat.zero_le _, rfl, rfl, rfl, rfl⟩
  case round =>
    obtain ⟨k, m, hk, rfl, rfl, hm, rfl⟩ := hrel
    have HM := Lib.hid hm; clear hm
    by_cases hlt : k < l.length
    · obtain ⟨b, off, rfl, _⟩ := HC.out.form (by omega)
      obtain ⟨x0, x1, x2⟩ := HC.out.at_ hlt
      have HS := Lib.hid (show rOut (l.take (k + 1)) = outStep m l[k] by rw [List.take_succ_eq_append_getElem hlt, rOut_snoc, HM.out])
      have HY := Lib.hid (HF.out l[k] (List.getElem_mem hlt))
      generalize l[k] = y at x0 x1 x2 HS HY
      obtain ⟨kd, n, tx⟩ := y
      simp only at x0 x1 x2
      by_cases h1 : kd = 1
      · subst h1
        rw [outStep, if_pos rfl] at HS
        have HH := Lib.hid (fun w => GH.out m n w)
        obtain ⟨q, HQ⟩ : ∃ q, Hid (hld m n = q) := ⟨_, Lib.hid rfl⟩
        have HS2 : Hid (rOut (l.take (k + 1)) = q) := by show _ = _; rw [HS.out]; exact HQ.out
        rw [HQ.out] at HH
        go_wp2_with fail
        refine (HH.out _).mono ?_
        rintro e w1 ⟨rfl, rfl⟩
        go_wp2
        go_roundw
        case rel => exact ⟨k + 1, q, by omega, by go_num, rfl, HS2.out, trivial⟩
        case measure => simp [intOf]; omega
      · have g1 : (kd == 1) = false := beq_eq_false_iff_ne.2 h1
        by_cases h2 : kd = 2
        · subst h2
          rw [outStep, if_neg h1, if_pos rfl] at HS
          have HL := Lib.hid (fun w => refLoose_any tx HY.out.1.2.2.1 HY.out.2 w)
          have HH := Lib.hid (fun w => GH.out m (loose tx : Int) w)
          obtain ⟨z, HZ⟩ : ∃ z, Hid (loose tx = z) := ⟨_, Lib.hid rfl⟩
          obtain ⟨q, HQ⟩ : ∃ q, Hid (hld m (loose tx : Int) = q) := ⟨_, Lib.hid rfl⟩
          have HS2 : Hid (rOut (l.take (k + 1)) = q) := by show _ = _; rw [HS.out]; exact HQ.out
          rw [HQ.out] at HH
          rw [HZ.out] at HL HH
          go_wp2_with fail
          refine (HL.out _).mono ?_
          rintro e w1 ⟨rfl, rfl⟩
          go_wp2_with fail
          refine (HH.out _).mono ?_
          rintro e w1 ⟨rfl, rfl⟩
          go_wp2
          go_roundw
          case rel => exact ⟨k + 1, q, by omega, by go_num, rfl, HS2.out, trivial⟩
          case measure => simp [intOf]; omega
        · have g2 : (kd == 2) = false := beq_eq_false_iff_ne.2 h2
          rw [outStep, if_neg h1, if_neg h2] at HS
          clear h1 h2
          go_wp2
          go_roundw
          case rel => exact ⟨k + 1, m, by omega, by go_num, rfl, HS.out, trivial⟩
          case measure => simp [intOf]; omega
    · have HE : Hid (m = T) := by show _ = _; rw [← HM.out, List.take_of_length_le (by omega), HT.out]
      go_wp2
      go_ret
      exact ⟨by rw [← HE.out]; rfl, rfl⟩
end Go.Proofs.Ytnadhpajelkngaa

/- The document's own Same, Idle, Keep of parts. Condition: no slice is longer than memory. -/
namespace Go.Proofs.Ytnadhpajelkngaa
open Go.RowKit Go.Deep

/-- Two edits are the same. -/
noncomputable def sameB (l m : List CompV) : Bool := @decide (l = m) (Classical.propDecidable _)
theorem sameB_yes {l m : List CompV} (h : l = m) : sameB l m = true := by unfold sameB; exact @decide_eq_true _ (Classical.propDecidable _) h
theorem sameB_no {l m : List CompV} (h : ¬ l = m) : sameB l m = false := by unfold sameB; exact @decide_eq_false _ (Classical.propDecidable _) h
theorem sameB_self (l : List CompV) : sameB l l = true := sameB_yes rfl

set_option maxHeartbeats 2000000 in
set_option maxRecDepth 100000 in
theorem refSame_any (A B : Option Addr) (ca cb : Nat) (l m : List CompV) (hl : l.length ≤ maxLen) (hm : m.length ≤ maxLen) (hgl : ∀ y ∈ l, y.Good) (hgm : ∀ y ∈ m, y.Good) (w : World) (hA : CompsAt w A l) (hB : CompsAt w B m) :
    Calls Try.prog 39 #[.slice A l.length ca, .slice B m.length cb] w fun e w' => e = .returned (.bool (sameB l m)) ∧ Below w.heap.size w w' := by
  unfold maxLen at hl hm
  have HA := Lib.hid hA; clear hA
  have HB := Lib.hid hB; clear hB
  have HGL := Lib.hid hgl; clear hgl
  have HGM := Lib.hid hgm; clear hgm
  obtain ⟨T, HT⟩ : ∃ T, Hid (sameB l m = T) := ⟨_, Lib.hid rfl⟩
  rw [HT.out]
  by_cases hlen : l.length = m.length
  · rw [← hlen]
    have HLEN := Lib.hid hlen
    clear hlen
    go_enter Try.func39, Try.ntmps39
    go_wp2
    go_loopw [5] (fun i wr => ∃ k : Nat, k ≤ l.length ∧ i = .int .i64 k ∧ l.take k = m.take k ∧ Below w.heap.size w wr) (fun i _ => l.length - (intOf i).toNat)
    case atStart => exact ⟨0, Nat.zero_le _, rfl, rfl, Below.refl _ _⟩
    case round =>
      obtain ⟨k, hk, rfl, htk, hbel⟩ := hrel
      have HBEL := Lib.hid hbel; clear hbel
      have HTK := Lib.hid htk; clear htk
      by_cases hlt : k < l.length
      · have hlt2 : k < m.length := by have := HLEN.out; omega
        obtain ⟨b1, o1, rfl, _⟩ := HA.out.form (by omega)
        obtain ⟨b2, o2, rfl, _⟩ := HB.out.form (by omega)
        obtain ⟨x0, x1, x2⟩ := (HA.out.below HBEL.out).at_ hlt
        obtain ⟨y0, y1, y2⟩ := (HB.out.below HBEL.out).at_ hlt2
        have HYES : Hid (l[k] = m[k] → l.take (k + 1) = m.take (k + 1)) := fun h => by rw [List.take_succ_eq_append_getElem hlt, List.take_succ_eq_append_getElem hlt2, HTK.out, h]
        have HNO : Hid (l[k] ≠ m[k] → T = false) := fun h => by rw [← HT.out]; exact sameB_no fun e => h (by subst e; rfl)
        have HG1 := Lib.hid (HGL.out l[k] (List.getElem_mem hlt))
        have HG2 := Lib.hid (HGM.out m[k] (List.getElem_mem hlt2))
        generalize l[k] = c at x0 x1 x2 HYES HNO HG1
        generalize m[k] = d at y0 y1 y2 HYES HNO HG2
        clear hlt2
        obtain ⟨kd, n, tx⟩ := c
        obtain ⟨kd2, n2, tx2⟩ := d
        simp only at x0 x1 x2 y0 y1 y2
        by_cases e0 : kd = kd2
        · subst e0
          by_cases e1 : n = n2
          · subst e1
            by_cases e2 : tx = tx2
            · subst e2
              go_wp2_with fail
              go_region
              go_wp2
              go_roundw
              case rel => exact ⟨k + 1, by omega, by go_num, HYES.out trivial, HBEL.out.drew⟩
              case measure => simp [intOf]; omega
            · have HF : Hid (T = false) := HNO.out fun h => e2 (by injection h)
              have g2 : ((bstr tx).toList == (bstr tx2).toList) = false := bstr_neq fun h => e2 (bstr_inj _ _ HG1.out.2.2.1 HG2.out.2.2.1 h)
              have g2' : ((bstr tx).toList != (bstr tx2).toList) = true := by rw [bne, g2]; rfl
              clear e2
              go_wp2_with fail
              go_region
              go_wp2
              go_ret
              exact ⟨by rw [HF.out]; rfl, HBEL.out.drew⟩
          · have HF : Hid (T = false) := HNO.out fun h => e1 (by injection h)
            have g1 : (n == n2) = false := beq_eq_false_iff_ne.2 e1
            have g1' : (n != n2) = true := bne_iff_ne.2 e1
            clear e1
            go_wp2_with fail
            go_region
            go_wp2
            go_ret
            exact ⟨by rw [HF.out]; rfl, HBEL.out.drew⟩
        · have HF : Hid (T = false) := HNO.out fun h => e0 (by injection h)
          have g0 : (kd == kd2) = false := beq_eq_false_iff_ne.2 e0
          have g0' : (kd != kd2) = true := bne_iff_ne.2 e0
          clear e0
          go_wp2_with fail
          go_region
          go_wp2
          go_ret
          exact ⟨by rw [HF.out]; rfl, HBEL.out.drew⟩
      · have HF : Hid (T = true) := by
          show T = true
          rw [← HT.out]
          apply sameB_yes
          have := HTK.out
          rwa [List.take_of_length_le (by omega), List.take_of_length_le (by have := HLEN.out; omega)] at this
        go_wp2
        go_ret
        exact ⟨by rw [HF.out]; rfl, HBEL.out⟩
  · have HF : Hid (T = false) := by show T = false; rw [← HT.out]; exact sameB_no fun h => hlen (by rw [h])
    have g0 : ((l.length : Int) == (m.length : Int)) = false := beq_eq_false_iff_ne.2 (by omega)
    have g0' : ((l.length : Int) != (m.length : Int)) = true := bne_iff_ne.2 (by omega)
    clear hlen
    go_enter Try.func39, Try.ntmps39
    go_wp2
    go_ret
    exact ⟨by rw [HF.out]; rfl, Below.refl _ _⟩

/-- An edit that does nothing. -/
def idleB (l : List CompV) : Bool := l.all fun c => !(c.kind == 2 || c.kind == 3)
/-- An edit that keeps all. -/
def keepL (n : Int) : List CompV := if n < 1 then [] else [⟨1, n, []⟩]
end Go.Proofs.Ytnadhpajelkngaa

/- The document's own Check of an edit. Condition: no slice is longer than memory, no text longer than 2^40 bytes. -/
namespace Go.Proofs.Ytnadhpajelkngaa
open Go.RowKit Go.Deep

set_option maxRecDepth 100000 in
theorem refCheck_any (A : Option Addr) (c : Nat) (l : List CompV) (hl : l.length ≤ maxLen) (hf : Fine1 l) (w : World) (hc : CompsAt w A l) :
    Calls Try.prog 12 #[.slice A l.length c] w fun e w' => e = .returned (.int .i64 (rCheck l : Int)) ∧ Below w.heap.size w w' := by
  have HL := Lib.hid hl
  unfold maxLen at hl
  have GN := Lib.hid (refNormal0_any A c l HL.out hf w hc)
  have GB := Lib.hid (fun w h => refBase_any A c l HL.out w h)
  have GO := Lib.hid (fun w h => refOut_any A c l HL.out hf w h)
  have HC := Lib.hid hc; clear hc hf
  obtain ⟨T, HT⟩ : ∃ T, Hid (rCheck l = T) := ⟨_, Lib.hid rfl⟩
  rw [HT.out]
  unfold rCheck at HT
  by_cases h100 : 100 < l.length
  · rw [if_pos h100] at HT
    go_enter Try.func12, Try.ntmps12
    go_wp2
    go_ret
    exact ⟨by rw [← HT.out]; rfl, Below.refl _ _⟩
  · rw [if_neg h100] at HT
    cases hnb : nrmB l with
    | false =>
      rw [hnb, if_pos rfl] at HT
      rw [hnb] at GN
      clear hnb
      go_enter Try.func12, Try.ntmps12
      go_wp2_with fail
      refine GN.out.mono ?_
      rintro e w1 ⟨rfl, hb1⟩
      have HB1 := Lib.hid hb1; clear hb1
      go_wp2
      go_ret
      exact ⟨by rw [← HT.out]; rfl, HB1.out⟩
    | true =>
      rw [hnb, if_neg (by simp)] at HT
      rw [hnb] at GN
      clear hnb
      obtain ⟨p, HP⟩ : ∃ x, Hid (rBase l = x) := ⟨_, Lib.hid rfl⟩
      obtain ⟨q, HQ⟩ : ∃ x, Hid (rOut l = x) := ⟨_, Lib.hid rfl⟩
      rw [HP.out] at GB HT
      rw [HQ.out] at GO HT
      go_enter Try.func12, Try.ntmps12
      go_wp2_with fail
      refine GN.out.mono ?_
      rintro e w1 ⟨rfl, hb1⟩
      have HB1 := Lib.hid hb1; clear hb1
      go_wp2_with fail
      refine (GB.out w1 (HC.out.below HB1.out)).mono ?_
      rintro e w2 ⟨rfl, rfl⟩
      by_cases hp : 2000 < p
      · rw [if_pos (.inl hp)] at HT
        go_wp2
        go_ret
        exact ⟨by rw [← HT.out]; rfl, HB1.out⟩
      · go_wp2_with fail
        refine (GO.out w1 (HC.out.below HB1.out)).mono ?_
        rintro e w2 ⟨rfl, rfl⟩
        by_cases hq : 2000 < q
        · rw [if_pos (.inr hq)] at HT
          go_wp2
          go_ret
          exact ⟨by rw [← HT.out]; rfl, HB1.out⟩
        · rw [if_neg (by omega)] at HT
          go_wp2
          go_ret
          exact ⟨by rw [← HT.out]; rfl, HB1.out⟩
end Go.Proofs.Ytnadhpajelkngaa

/- append of one part, just laid, onto a row of parts of the call's own. Condition: no more than 2^40 parts. -/
namespace Go.Proofs.Ytnadhpajelkngaa
open Go.RowKit Go.Deep

theorem part_info : (Try.prog.info? 54).map (fun i => (i.zero, i.size, i.bytes)) = some (some (.agg #[.int .i64 0, .int .i64 0, .string { data := #[] }]), 3, 32) := by kernel_rfl
theorem wpList_push {ops : Array Oper} {rest : List Oper} {o : Oper} {a : Act} {w : World} {Q : Exit → Act → World → Prop} (hgd : o.guard = none) (s x : Operand)
    (ho : o.op = .call { callee := .builtin .append, args := #[s, x], argTypes := #[22, 22] })
    (W : World) (v : Value) (out : List CompV) (cr : CompV) (hs : a.eval s = v) (hown : w.ownsRow W.heap.size 54 3 v out.length (out.flatMap compCells)) (hb : Below W.heap.size W w)
    (hx : a.eval x = .slice (some ⟨w.heap.size, 0, none⟩) 1 1) (hlen : out.length ≤ 1099511627776)
    (h : ∀ out' A' c' w', out' = out ++ [cr] → w'.ownsRow W.heap.size 54 3 (.slice A' out'.length c') out'.length (out'.flatMap compCells) → Below W.heap.size W w' → wpList Try.prog ops Q rest (a.put o.dst (.slice A' out'.length c')) w') :
    wpList Try.prog ops Q (o :: rest) a (w.alloc (.cells #[.int .i64 cr.kind, .int .i64 cr.n, .string (bstr cr.text)] 54)) := by
  obtain ⟨i0, hi0, hz0, hz1, hz2⟩ := info_parts part_info
  have hsz := hb.size
  refine wpList_append_own_wide _ hgd s x 22 ho W.heap.size 54 i0 (.agg #[.int .i64 0, .int .i64 0, .string { data := #[] }]) 3 32 Try.underlying22 hi0 hz0 hz1 hz2 rfl (by omega) v out.length (out.flatMap compCells) hs (hown.alloc _) ⟨w.heap.size, 0, none⟩ 1 1 (compCells cr) hx rfl ?_ ?_ (by simp only [maxLen]; omega) (by omega) (by simp; omega) ?_
  · intro j u hj
    rw [Go.WideShapes.add_plain, Nat.zero_add, cell_of_row _ _ _ _ _ _ (heap_alloc_new w _)]
    simpa [compCells] using hj
  · intro u hu; simp [compCells] at hu; rcases hu with rfl | rfl | rfl <;> rfl
  intro v' w' hown' hgr _
  have e : out.flatMap compCells ++ compCells cr = (out ++ [cr]).flatMap compCells := by simp
  have hown2 : w'.ownsRow W.heap.size 54 3 v' (out ++ [cr]).length ((out ++ [cr]).flatMap compCells) := by
    rw [← e, List.length_append]
    exact hown'
  obtain ⟨A', c', rfl⟩ := own_slice hown2
  exact h _ A' c' w' rfl hown2 ((hb.alloc hsz _).grown hgr (by simp; omega) (fun k hk => (hown.lt k hk).1))
end Go.Proofs.Ytnadhpajelkngaa

/- The document's own Normal of parts. Conditions: no more than 2^30 parts, no more than 2^40 bytes of text. -/
namespace Go.Proofs.Ytnadhpajelkngaa
open Go.RowKit Go.Deep

/-- What the loop holds. -/
def NRel (l : List CompV) (k : Nat) (s : NS) : Prop := (k ≤ l.length → s = nRun (l.take k)) ∧ (k = l.length + 1 → s = ⟨rNormal l, 0, 0, []⟩)
set_option maxHeartbeats 16000000 in
set_option maxRecDepth 100000 in
theorem refNormal_any (A : Option Addr) (c : Nat) (l : List CompV) (hl : l.length ≤ 1073741824) (ht : tlen l ≤ 1099511627776) (w : World) (hc : CompsAt w A l) :
    Calls Try.prog 34 #[.slice A l.length c] w fun e w' => ∃ A' c', e = .returned (.slice A' (rNormal l).length c') ∧ w'.ownsRow w.heap.size 54 3 (.slice A' (rNormal l).length c') (rNormal l).length ((rNormal l).flatMap compCells) ∧ Below w.heap.size w w' := by
  have HC := Lib.hid hc; clear hc
  have HTL := Lib.hid ht; clear ht
  have GH := Lib.hid (fun a b w => refHeld_any a b w)
  go_enter Try.func34, Try.ntmps34
  go_wp2
  go_loopw [3, 4, 5, 6, 7] (fun o p g t i wr => ∃ (k : Nat) (s : NS) (A0 : Option Addr) (c0 : Nat), k ≤ l.length + 1 ∧ i = .int .i64 k ∧ o = .slice A0 s.out.length c0 ∧ p = .int .i64 s.keep ∧ g = .int .i64 s.gone ∧ t = .string (bstr s.text) ∧ NRel l k s ∧
    wr.ownsRow w.heap.size 54 3 (.slice A0 s.out.length c0) s.out.length (s.out.flatMap compCells) ∧ Below w.heap.size w wr) (fun _ _ _ _ i _ => l.length + 1 - (intOf i).toNat)
  case atStart => exact ⟨0, nStart, none, 0, Nat.zero_le _, rfl, rfl, rfl, rfl, rfl, ⟨fun _ => rfl, fun h => by omega⟩, World.ownsRow_nil _ _ _ _, Below.refl _ _⟩
  case round =>
    obtain ⟨k, s, A0, c0, hk, rfl, rfl, rfl, rfl, rfl, hrel, hown, hb⟩ := hrel
    have HOWN0 := Lib.hid hown; clear hown
    have HB0 := Lib.hid hb; clear hb
    by_cases hend : k = l.length + 1
    · obtain rfl := hrel.2 hend
      have hkl : ¬ k ≤ l.length := by omega
      clear hend
      go_wp2
      go_ret
      exact ⟨A0, c0, rfl, HOWN0.out, HB0.out⟩
    have hkl : k ≤ l.length := by omega
    clear hend hk
    have hs := hrel.1 hkl
    clear hrel
    have hfit := run_fit (l.take k)
    rw [← hs, List.length_take] at hfit
    have HTT : Hid (s.text.length ≤ tlen (l.take k)) := hfit.text
    have hp0 := hfit.keep0; have hp1 := hfit.keep1; have hg0 := hfit.gone0; have hg1 := hfit.gone1
    have hol : s.out.length ≤ 3221225472 := Nat.le_trans hfit.out (by omega)
    clear hfit
    obtain ⟨out0, keep, gone, tx⟩ := s
    simp only at hp0 hp1 hg0 hg1 hol HTT HOWN0
    have HS := Lib.hid hs; clear hs
    have HOL := Lib.hid hol; clear hol
    by_cases hlt : k < l.length
    · obtain ⟨b, off, rfl, _⟩ := HC.out.form (by omega)
      obtain ⟨x0, x1, x2⟩ := (HC.out.below HB0.out).at_ hlt
      have HN := Lib.hid (show nRun (l.take (k + 1)) = nStep ⟨out0, keep, gone, tx⟩ l[k] by rw [List.take_succ_eq_append_getElem hlt, nRun_snoc, ← HS.out])
      have HTG := Lib.hid (tlen_get hlt)
      have HX1 := Lib.hid (fun (w' : World) (h : CompsAt w' (some ⟨b, off, none⟩) l) => (h.at_ hlt).2.1)
      generalize l[k] = y at x0 x1 x2 HN HTG HX1
      obtain ⟨kd, n, ct⟩ := y
      simp only at x0 x1 x2 HTG HX1
      have htx : tx.length ≤ 1099511627776 := by have := HTT.out; have := HTG.out; have := HTL.out; omega
      have hct : ct.length ≤ 1099511627776 := by have := HTG.out; have := HTL.out; omega
      have HADD := Lib.hid (fun w => add_bstr tx ct htx hct w)
      clear htx hct
      by_cases h2 : kd = 2
      · subst h2
        have HN2 : Hid (nRun (l.take (k + 1)) = ⟨out0, keep, gone, tx ++ ct⟩) := by show _ = _; rw [HN.out, nStep, if_pos rfl]
        have hadd := HADD.out
        go_wp2
        go_roundw
        case rel => exact ⟨k + 1, ⟨out0, keep, gone, tx ++ ct⟩, A0, c0, by omega, by go_num, rfl, rfl, rfl, rfl, ⟨fun _ => HN2.out.symm, fun h => by omega⟩, HOWN0.out, HB0.out⟩
        case measure => simp [intOf]; omega
      have g2 : (kd == 2) = false := beq_eq_false_iff_ne.2 h2
      by_cases h3 : kd = 3
      · subst h3
        have HN2 : Hid (nRun (l.take (k + 1)) = ⟨out0, keep, hld gone n, tx⟩) := by show _ = _; rw [HN.out, nStep, if_neg h2, if_pos rfl]
        have HH := Lib.hid (fun w => GH.out gone n w)
        obtain ⟨q, HQ⟩ : ∃ q, Hid (hld gone n = q) := ⟨_, Lib.hid rfl⟩
        rw [HQ.out] at HN2 HH
        go_wp2_with fail
        refine (HH.out _).mono ?_
        rintro e w1 ⟨rfl, rfl⟩
        go_wp2
        go_roundw
        case rel => exact ⟨k + 1, ⟨out0, keep, q, tx⟩, A0, c0, by omega, by go_num, rfl, rfl, rfl, rfl, ⟨fun _ => HN2.out.symm, fun h => by omega⟩, HOWN0.out, HB0.out⟩
        case measure => simp [intOf]; omega
      have g3 : (kd == 3) = false := beq_eq_false_iff_ne.2 h3
      by_cases h1 : kd = 1
      · subst h1
        by_cases hn : 1 ≤ n
        · have hn' : ¬ n < 1 := by omega
          rw [nStep, if_neg h2, if_neg h3, if_neg (by simp only; omega)] at HN
          have HK0 := Lib.hid (fun w => GH.out 0 n w)
          have HKK := Lib.hid (fun w => GH.out keep n w)
          obtain ⟨q, HQ⟩ : ∃ q, Hid (hld keep n = q) := ⟨_, Lib.hid rfl⟩
          obtain ⟨q0, HQ0⟩ : ∃ q, Hid (hld 0 n = q) := ⟨_, Lib.hid rfl⟩
          simp only [HQ.out, HQ0.out] at HN
          rw [HQ.out] at HKK
          rw [HQ0.out] at HK0
          clear h2 h3
          by_cases hfl : tx ≠ [] ∨ 0 < gone
          · rw [if_pos hfl] at HN
            unfold NS.flush at HN
            simp only at HN
            by_cases hkp : 0 < keep
            · rw [keepOf, if_pos hkp] at HN
              by_cases htx : tx = []
              · subst htx
                rw [textOf, if_pos rfl] at HN
                have hte := empty_yes
                by_cases hgo : 0 < gone
                · rw [goneOf, if_pos hgo] at HN
                  have HLEN0 : Hid (out0.length ≤ 3221225472) := HOL.out
                  go_wp2_with (first
                    | (at_builtin
                       refine wpList_push rfl (.tmp 86) (.tmp 89) rfl w (.slice A0 out0.length c0) out0 ⟨1, keep, []⟩ rfl HOWN0.out HB0.out rfl (by have := HLEN0.out; omega) ?_
                       intro out1 A1 c1 w1 ho1 hown1 hb1
                       have HO1 := Lib.hid ho1; have HOWN1 := Lib.hid hown1; have HB1 := Lib.hid hb1
                       have HLEN1 : Hid (out1.length ≤ 3221225473) := by show _ ≤ _; rw [HO1.out, List.length_append]; have := HLEN0.out; simp only [List.length_cons, List.length_nil]; omega
                       have z1 := HX1.out _ (HC.out.below HB1.out)
                       clear ho1 hown1 hb1)
                    | (at_builtin
                       refine wpList_push rfl (.tmp 100) (.tmp 103) rfl w (.slice A1 out1.length c1) out1 ⟨3, gone, []⟩ rfl HOWN1.out HB1.out rfl (by have := HLEN1.out; omega) ?_
                       intro out2 A2 c2 w2 ho2 hown2 hb2
                       have HO2 := Lib.hid ho2; have HOWN2 := Lib.hid hown2; have HB2 := Lib.hid hb2
                       have HLEN2 : Hid (out2.length ≤ 3221225474) := by show _ ≤ _; rw [HO2.out, List.length_append]; have := HLEN1.out; simp only [List.length_cons, List.length_nil]; omega
                       have z2 := HX1.out _ (HC.out.below HB2.out)
                       clear ho2 hown2 hb2)
                    | fail)
                  refine (HK0.out _).mono ?_
                  rintro e w9 ⟨rfl, rfl⟩
                  go_wp2
                  go_roundw
                  case measure => simp [intOf]; omega
                  have hO : nRun (l.take (k + 1)) = ⟨out2, q0, 0, []⟩ := by simp [HN.out, HO2.out, HO1.out]
                  exact ⟨k + 1, ⟨out2, q0, 0, []⟩, A2, c2, by omega, by go_num, rfl, rfl, rfl, rfl, ⟨fun _ => hO.symm, fun h => by omega⟩, HOWN2.out, HB2.out⟩
                · rw [goneOf, if_neg hgo] at HN
                  have hgo0 : gone = 0 := by omega
                  subst hgo0
                  exact absurd hfl (by simp)
              · have hte := empty_no htx
                rw [textOf, if_neg htx] at HN
                clear htx
                by_cases hgo : 0 < gone
                · rw [goneOf, if_pos hgo] at HN
                  have HLEN0 : Hid (out0.length ≤ 3221225472) := HOL.out
                  go_wp2_with (first
                    | (at_builtin
                       refine wpList_push rfl (.tmp 86) (.tmp 89) rfl w (.slice A0 out0.length c0) out0 ⟨1, keep, []⟩ rfl HOWN0.out HB0.out rfl (by have := HLEN0.out; omega) ?_
                       intro out1 A1 c1 w1 ho1 hown1 hb1
                       have HO1 := Lib.hid ho1; have HOWN1 := Lib.hid hown1; have HB1 := Lib.hid hb1
                       have HLEN1 : Hid (out1.length ≤ 3221225473) := by show _ ≤ _; rw [HO1.out, List.length_append]; have := HLEN0.out; simp only [List.length_cons, List.length_nil]; omega
                       have z1 := HX1.out _ (HC.out.below HB1.out)
                       clear ho1 hown1 hb1)
                    | (at_builtin
                       refine wpList_push rfl (.tmp 93) (.tmp 96) rfl w (.slice A1 out1.length c1) out1 ⟨2, 0, tx⟩ rfl HOWN1.out HB1.out rfl (by have := HLEN1.out; omega) ?_
                       intro out2 A2 c2 w2 ho2 hown2 hb2
                       have HO2 := Lib.hid ho2; have HOWN2 := Lib.hid hown2; have HB2 := Lib.hid hb2
                       have HLEN2 : Hid (out2.length ≤ 3221225474) := by show _ ≤ _; rw [HO2.out, List.length_append]; have := HLEN1.out; simp only [List.length_cons, List.length_nil]; omega
                       have z2 := HX1.out _ (HC.out.below HB2.out)
                       clear ho2 hown2 hb2)
                    | (at_builtin
                       refine wpList_push rfl (.tmp 100) (.tmp 103) rfl w (.slice A2 out2.length c2) out2 ⟨3, gone, []⟩ rfl HOWN2.out HB2.out rfl (by have := HLEN2.out; omega) ?_
                       intro out3 A3 c3 w3 ho3 hown3 hb3
                       have HO3 := Lib.hid ho3; have HOWN3 := Lib.hid hown3; have HB3 := Lib.hid hb3
                       have HLEN3 : Hid (out3.length ≤ 3221225475) := by show _ ≤ _; rw [HO3.out, List.length_append]; have := HLEN2.out; simp only [List.length_cons, List.length_nil]; omega
                       have z3 := HX1.out _ (HC.out.below HB3.out)
                       clear ho3 hown3 hb3)
                    | fail)
                  refine (HK0.out _).mono ?_
                  rintro e w9 ⟨rfl, rfl⟩
                  go_wp2
                  go_roundw
                  case measure => simp [intOf]; omega
                  have hO : nRun (l.take (k + 1)) = ⟨out3, q0, 0, []⟩ := by simp [HN.out, HO3.out, HO2.out, HO1.out]
                  exact ⟨k + 1, ⟨out3, q0, 0, []⟩, A3, c3, by omega, by go_num, rfl, rfl, rfl, rfl, ⟨fun _ => hO.symm, fun h => by omega⟩, HOWN3.out, HB3.out⟩
                · rw [goneOf, if_neg hgo] at HN
                  have hgo0 : gone = 0 := by omega
                  subst hgo0
                  have HLEN0 : Hid (out0.length ≤ 3221225472) := HOL.out
                  go_wp2_with (first
                    | (at_builtin
                       refine wpList_push rfl (.tmp 86) (.tmp 89) rfl w (.slice A0 out0.length c0) out0 ⟨1, keep, []⟩ rfl HOWN0.out HB0.out rfl (by have := HLEN0.out; omega) ?_
                       intro out1 A1 c1 w1 ho1 hown1 hb1
                       have HO1 := Lib.hid ho1; have HOWN1 := Lib.hid hown1; have HB1 := Lib.hid hb1
                       have HLEN1 : Hid (out1.length ≤ 3221225473) := by show _ ≤ _; rw [HO1.out, List.length_append]; have := HLEN0.out; simp only [List.length_cons, List.length_nil]; omega
                       have z1 := HX1.out _ (HC.out.below HB1.out)
                       clear ho1 hown1 hb1)
                    | (at_builtin
                       refine wpList_push rfl (.tmp 93) (.tmp 96) rfl w (.slice A1 out1.length c1) out1 ⟨2, 0, tx⟩ rfl HOWN1.out HB1.out rfl (by have := HLEN1.out; omega) ?_
                       intro out2 A2 c2 w2 ho2 hown2 hb2
                       have HO2 := Lib.hid ho2; have HOWN2 := Lib.hid hown2; have HB2 := Lib.hid hb2
                       have HLEN2 : Hid (out2.length ≤ 3221225474) := by show _ ≤ _; rw [HO2.out, List.length_append]; have := HLEN1.out; simp only [List.length_cons, List.length_nil]; omega
                       have z2 := HX1.out _ (HC.out.below HB2.out)
                       clear ho2 hown2 hb2)
                    | fail)
                  refine (HK0.out _).mono ?_
                  rintro e w9 ⟨rfl, rfl⟩
                  go_wp2
                  go_roundw
                  case measure => simp [intOf]; omega
                  have hO : nRun (l.take (k + 1)) = ⟨out2, q0, 0, []⟩ := by simp [HN.out, HO2.out, HO1.out]
                  exact ⟨k + 1, ⟨out2, q0, 0, []⟩, A2, c2, by omega, by go_num, rfl, rfl, rfl, rfl, ⟨fun _ => hO.symm, fun h => by omega⟩, HOWN2.out, HB2.out⟩
            · rw [keepOf, if_neg hkp] at HN
              have hkp0 : keep = 0 := by omega
              subst hkp0
              by_cases htx : tx = []
              · subst htx
                rw [textOf, if_pos rfl] at HN
                have hte := empty_yes
                by_cases hgo : 0 < gone
                · rw [goneOf, if_pos hgo] at HN
                  have HLEN0 : Hid (out0.length ≤ 3221225472) := HOL.out
                  go_wp2_with (first
                    | (at_builtin
                       refine wpList_push rfl (.tmp 100) (.tmp 103) rfl w (.slice A0 out0.length c0) out0 ⟨3, gone, []⟩ rfl HOWN0.out HB0.out rfl (by have := HLEN0.out; omega) ?_
                       intro out1 A1 c1 w1 ho1 hown1 hb1
                       have HO1 := Lib.hid ho1; have HOWN1 := Lib.hid hown1; have HB1 := Lib.hid hb1
                       have HLEN1 : Hid (out1.length ≤ 3221225473) := by show _ ≤ _; rw [HO1.out, List.length_append]; have := HLEN0.out; simp only [List.length_cons, List.length_nil]; omega
                       have z1 := HX1.out _ (HC.out.below HB1.out)
                       clear ho1 hown1 hb1)
                    | fail)
                  refine (HK0.out _).mono ?_
                  rintro e w9 ⟨rfl, rfl⟩
                  go_wp2
                  go_roundw
                  case measure => simp [intOf]; omega
                  have hO : nRun (l.take (k + 1)) = ⟨out1, q0, 0, []⟩ := by simp [HN.out, HO1.out]
                  exact ⟨k + 1, ⟨out1, q0, 0, []⟩, A1, c1, by omega, by go_num, rfl, rfl, rfl, rfl, ⟨fun _ => hO.symm, fun h => by omega⟩, HOWN1.out, HB1.out⟩
                · rw [goneOf, if_neg hgo] at HN
                  have hgo0 : gone = 0 := by omega
                  subst hgo0
                  exact absurd hfl (by simp)
              · have hte := empty_no htx
                rw [textOf, if_neg htx] at HN
                clear htx
                by_cases hgo : 0 < gone
                · rw [goneOf, if_pos hgo] at HN
                  have HLEN0 : Hid (out0.length ≤ 3221225472) := HOL.out
                  go_wp2_with (first
                    | (at_builtin
                       refine wpList_push rfl (.tmp 93) (.tmp 96) rfl w (.slice A0 out0.length c0) out0 ⟨2, 0, tx⟩ rfl HOWN0.out HB0.out rfl (by have := HLEN0.out; omega) ?_
                       intro out1 A1 c1 w1 ho1 hown1 hb1
                       have HO1 := Lib.hid ho1; have HOWN1 := Lib.hid hown1; have HB1 := Lib.hid hb1
                       have HLEN1 : Hid (out1.length ≤ 3221225473) := by show _ ≤ _; rw [HO1.out, List.length_append]; have := HLEN0.out; simp only [List.length_cons, List.length_nil]; omega
                       have z1 := HX1.out _ (HC.out.below HB1.out)
                       clear ho1 hown1 hb1)
                    | (at_builtin
                       refine wpList_push rfl (.tmp 100) (.tmp 103) rfl w (.slice A1 out1.length c1) out1 ⟨3, gone, []⟩ rfl HOWN1.out HB1.out rfl (by have := HLEN1.out; omega) ?_
                       intro out2 A2 c2 w2 ho2 hown2 hb2
                       have HO2 := Lib.hid ho2; have HOWN2 := Lib.hid hown2; have HB2 := Lib.hid hb2
                       have HLEN2 : Hid (out2.length ≤ 3221225474) := by show _ ≤ _; rw [HO2.out, List.length_append]; have := HLEN1.out; simp only [List.length_cons, List.length_nil]; omega
                       have z2 := HX1.out _ (HC.out.below HB2.out)
                       clear ho2 hown2 hb2)
                    | fail)
                  refine (HK0.out _).mono ?_
                  rintro e w9 ⟨rfl, rfl⟩
                  go_wp2
                  go_roundw
                  case measure => simp [intOf]; omega
                  have hO : nRun (l.take (k + 1)) = ⟨out2, q0, 0, []⟩ := by simp [HN.out, HO2.out, HO1.out]
                  exact ⟨k + 1, ⟨out2, q0, 0, []⟩, A2, c2, by omega, by go_num, rfl, rfl, rfl, rfl, ⟨fun _ => hO.symm, fun h => by omega⟩, HOWN2.out, HB2.out⟩
                · rw [goneOf, if_neg hgo] at HN
                  have hgo0 : gone = 0 := by omega
                  subst hgo0
                  have HLEN0 : Hid (out0.length ≤ 3221225472) := HOL.out
                  go_wp2_with (first
                    | (at_builtin
                       refine wpList_push rfl (.tmp 93) (.tmp 96) rfl w (.slice A0 out0.length c0) out0 ⟨2, 0, tx⟩ rfl HOWN0.out HB0.out rfl (by have := HLEN0.out; omega) ?_
                       intro out1 A1 c1 w1 ho1 hown1 hb1
                       have HO1 := Lib.hid ho1; have HOWN1 := Lib.hid hown1; have HB1 := Lib.hid hb1
                       have HLEN1 : Hid (out1.length ≤ 3221225473) := by show _ ≤ _; rw [HO1.out, List.length_append]; have := HLEN0.out; simp only [List.length_cons, List.length_nil]; omega
                       have z1 := HX1.out _ (HC.out.below HB1.out)
                       clear ho1 hown1 hb1)
                    | fail)
                  refine (HK0.out _).mono ?_
                  rintro e w9 ⟨rfl, rfl⟩
                  go_wp2
                  go_roundw
                  case measure => simp [intOf]; omega
                  have hO : nRun (l.take (k + 1)) = ⟨out1, q0, 0, []⟩ := by simp [HN.out, HO1.out]
                  exact ⟨k + 1, ⟨out1, q0, 0, []⟩, A1, c1, by omega, by go_num, rfl, rfl, rfl, rfl, ⟨fun _ => hO.symm, fun h => by omega⟩, HOWN1.out, HB1.out⟩
          · rw [if_neg hfl] at HN
            obtain rfl : tx = [] := Classical.byContradiction fun h => hfl (.inl h)
            obtain rfl : gone = 0 := by have : ¬ 0 < gone := fun h => hfl (.inr h); omega
            clear hfl
            have hte := empty_yes
            go_wp2_with fail
            refine (HKK.out _).mono ?_
            rintro e w1 ⟨rfl, rfl⟩
            go_wp2
            go_roundw
            case rel => exact ⟨k + 1, ⟨out0, q, 0, []⟩, A0, c0, by omega, by go_num, rfl, rfl, rfl, rfl, ⟨fun _ => HN.out.symm, fun h => by omega⟩, HOWN0.out, HB0.out⟩
            case measure => simp [intOf]; omega
        · have hn' : n < 1 := by omega
          have HN2 : Hid (nRun (l.take (k + 1)) = ⟨out0, keep, gone, tx⟩) := by show _ = _; rw [HN.out, nStep, if_neg h2, if_neg h3, if_pos (.inr hn')]
          clear h2 h3 hn
          go_wp2
          go_roundw
          case rel => exact ⟨k + 1, ⟨out0, keep, gone, tx⟩, A0, c0, by omega, by go_num, rfl, rfl, rfl, rfl, ⟨fun _ => HN2.out.symm, fun h => by omega⟩, HOWN0.out, HB0.out⟩
          case measure => simp [intOf]; omega
      · have g1 : (kd == 1) = false := beq_eq_false_iff_ne.2 h1
        have g1' : (kd != 1) = true := bne_iff_ne.2 h1
        have HN2 : Hid (nRun (l.take (k + 1)) = ⟨out0, keep, gone, tx⟩) := by show _ = _; rw [HN.out, nStep, if_neg h2, if_neg h3, if_pos (.inl h1)]
        clear h2 h3 h1
        go_wp2
        go_roundw
        case rel => exact ⟨k + 1, ⟨out0, keep, gone, tx⟩, A0, c0, by omega, by go_num, rfl, rfl, rfl, rfl, ⟨fun _ => HN2.out.symm, fun h => by omega⟩, HOWN0.out, HB0.out⟩
        case measure => simp [intOf]; omega
    · have hke : k = l.length := by omega
      have HE : Hid (rNormal l = NS.flush ⟨out0, keep, gone, tx⟩) := by show _ = _; rw [rNormal, HS.out, List.take_of_length_le (by omega)]
      have hki : ((k : Int) == (l.length : Int)) = true := beq_iff_eq.2 (by omega)
      clear HS HTT
      unfold NS.flush at HE
      simp only at HE
      by_cases hkp : 0 < keep
      · rw [keepOf, if_pos hkp] at HE
        by_cases htx : tx = []
        · subst htx
          rw [textOf, if_pos rfl] at HE
          have hte := empty_yes
          by_cases hgo : 0 < gone
          · rw [goneOf, if_pos hgo] at HE
            have HLEN0 : Hid (out0.length ≤ 3221225472) := HOL.out
            go_wp2_with (first
              | (at_builtin
                 refine wpList_push rfl (.tmp 86) (.tmp 89) rfl w (.slice A0 out0.length c0) out0 ⟨1, keep, []⟩ rfl HOWN0.out HB0.out rfl (by have := HLEN0.out; omega) ?_
                 intro out1 A1 c1 w1 ho1 hown1 hb1
                 have HO1 := Lib.hid ho1; have HOWN1 := Lib.hid hown1; have HB1 := Lib.hid hb1
                 have HLEN1 : Hid (out1.length ≤ 3221225473) := by show _ ≤ _; rw [HO1.out, List.length_append]; have := HLEN0.out; simp only [List.length_cons, List.length_nil]; omega
                 clear ho1 hown1 hb1)
              | (at_builtin
                 refine wpList_push rfl (.tmp 100) (.tmp 103) rfl w (.slice A1 out1.length c1) out1 ⟨3, gone, []⟩ rfl HOWN1.out HB1.out rfl (by have := HLEN1.out; omega) ?_
                 intro out2 A2 c2 w2 ho2 hown2 hb2
                 have HO2 := Lib.hid ho2; have HOWN2 := Lib.hid hown2; have HB2 := Lib.hid hb2
                 have HLEN2 : Hid (out2.length ≤ 3221225474) := by show _ ≤ _; rw [HO2.out, List.length_append]; have := HLEN1.out; simp only [List.length_cons, List.length_nil]; omega
                 clear ho2 hown2 hb2)
              | fail)
            go_roundw
            case measure => simp [intOf]; omega
            have hO : rNormal l = out2 := by simp [HE.out, HO2.out, HO1.out]
            exact ⟨k + 1, ⟨out2, 0, 0, []⟩, A2, c2, by omega, by go_num, rfl, rfl, rfl, rfl, ⟨fun h => by omega, fun _ => by rw [hO]⟩, HOWN2.out, HB2.out⟩
          · rw [goneOf, if_neg hgo] at HE
            have hgo0 : gone = 0 := by omega
            subst hgo0
            have HLEN0 : Hid (out0.length ≤ 3221225472) := HOL.out
            go_wp2_with (first
              | (at_builtin
                 refine wpList_push rfl (.tmp 86) (.tmp 89) rfl w (.slice A0 out0.length c0) out0 ⟨1, keep, []⟩ rfl HOWN0.out HB0.out rfl (by have := HLEN0.out; omega) ?_
                 intro out1 A1 c1 w1 ho1 hown1 hb1
                 have HO1 := Lib.hid ho1; have HOWN1 := Lib.hid hown1; have HB1 := Lib.hid hb1
                 have HLEN1 : Hid (out1.length ≤ 3221225473) := by show _ ≤ _; rw [HO1.out, List.length_append]; have := HLEN0.out; simp only [List.length_cons, List.length_nil]; omega
                 clear ho1 hown1 hb1)
              | fail)
            go_roundw
            case measure => simp [intOf]; omega
            have hO : rNormal l = out1 := by simp [HE.out, HO1.out]
            exact ⟨k + 1, ⟨out1, 0, 0, []⟩, A1, c1, by omega, by go_num, rfl, rfl, rfl, rfl, ⟨fun h => by omega, fun _ => by rw [hO]⟩, HOWN1.out, HB1.out⟩
        · have hte := empty_no htx
          rw [textOf, if_neg htx] at HE
          clear htx
          by_cases hgo : 0 < gone
          · rw [goneOf, if_pos hgo] at HE
            have HLEN0 : Hid (out0.length ≤ 3221225472) := HOL.out
            go_wp2_with (first
              | (at_builtin
                 refine wpList_push rfl (.tmp 86) (.tmp 89) rfl w (.slice A0 out0.length c0) out0 ⟨1, keep, []⟩ rfl HOWN0.out HB0.out rfl (by have := HLEN0.out; omega) ?_
                 intro out1 A1 c1 w1 ho1 hown1 hb1
                 have HO1 := Lib.hid ho1; have HOWN1 := Lib.hid hown1; have HB1 := Lib.hid hb1
                 have HLEN1 : Hid (out1.length ≤ 3221225473) := by show _ ≤ _; rw [HO1.out, List.length_append]; have := HLEN0.out; simp only [List.length_cons, List.length_nil]; omega
                 clear ho1 hown1 hb1)
              | (at_builtin
                 refine wpList_push rfl (.tmp 93) (.tmp 96) rfl w (.slice A1 out1.length c1) out1 ⟨2, 0, tx⟩ rfl HOWN1.out HB1.out rfl (by have := HLEN1.out; omega) ?_
                 intro out2 A2 c2 w2 ho2 hown2 hb2
                 have HO2 := Lib.hid ho2; have HOWN2 := Lib.hid hown2; have HB2 := Lib.hid hb2
                 have HLEN2 : Hid (out2.length ≤ 3221225474) := by show _ ≤ _; rw [HO2.out, List.length_append]; have := HLEN1.out; simp only [List.length_cons, List.length_nil]; omega
                 clear ho2 hown2 hb2)
              | (at_builtin
                 refine wpList_push rfl (.tmp 100) (.tmp 103) rfl w (.slice A2 out2.length c2) out2 ⟨3, gone, []⟩ rfl HOWN2.out HB2.out rfl (by have := HLEN2.out; omega) ?_
                 intro out3 A3 c3 w3 ho3 hown3 hb3
                 have HO3 := Lib.hid ho3; have HOWN3 := Lib.hid hown3; have HB3 := Lib.hid hb3
                 have HLEN3 : Hid (out3.length ≤ 3221225475) := by show _ ≤ _; rw [HO3.out, List.length_append]; have := HLEN2.out; simp only [List.length_cons, List.length_nil]; omega
                 clear ho3 hown3 hb3)
              | fail)
            go_roundw
            case measure => simp [intOf]; omega
            have hO : rNormal l = out3 := by simp [HE.out, HO3.out, HO2.out, HO1.out]
            exact ⟨k + 1, ⟨out3, 0, 0, []⟩, A3, c3, by omega, by go_num, rfl, rfl, rfl, rfl, ⟨fun h => by omega, fun _ => by rw [hO]⟩, HOWN3.out, HB3.out⟩
          · rw [goneOf, if_neg hgo] at HE
            have hgo0 : gone = 0 := by omega
            subst hgo0
            have HLEN0 : Hid (out0.length ≤ 3221225472) := HOL.out
            go_wp2_with (first
              | (at_builtin
                 refine wpList_push rfl (.tmp 86) (.tmp 89) rfl w (.slice A0 out0.length c0) out0 ⟨1, keep, []⟩ rfl HOWN0.out HB0.out rfl (by have := HLEN0.out; omega) ?_
                 intro out1 A1 c1 w1 ho1 hown1 hb1
                 have HO1 := Lib.hid ho1; have HOWN1 := Lib.hid hown1; have HB1 := Lib.hid hb1
                 have HLEN1 : Hid (out1.length ≤ 3221225473) := by show _ ≤ _; rw [HO1.out, List.length_append]; have := HLEN0.out; simp only [List.length_cons, List.length_nil]; omega
                 clear ho1 hown1 hb1)
              | (at_builtin
                 refine wpList_push rfl (.tmp 93) (.tmp 96) rfl w (.slice A1 out1.length c1) out1 ⟨2, 0, tx⟩ rfl HOWN1.out HB1.out rfl (by have := HLEN1.out; omega) ?_
                 intro out2 A2 c2 w2 ho2 hown2 hb2
                 have HO2 := Lib.hid ho2; have HOWN2 := Lib.hid hown2; have HB2 := Lib.hid hb2
                 have HLEN2 : Hid (out2.length ≤ 3221225474) := by show _ ≤ _; rw [HO2.out, List.length_append]; have := HLEN1.out; simp only [List.length_cons, List.length_nil]; omega
                 clear ho2 hown2 hb2)
              | fail)
            go_roundw
            case measure => simp [intOf]; omega
            have hO : rNormal l = out2 := by simp [HE.out, HO2.out, HO1.out]
            exact ⟨k + 1, ⟨out2, 0, 0, []⟩, A2, c2, by omega, by go_num, rfl, rfl, rfl, rfl, ⟨fun h => by omega, fun _ => by rw [hO]⟩, HOWN2.out, HB2.out⟩
      · rw [keepOf, if_neg hkp] at HE
        have hkp0 : keep = 0 := by omega
        subst hkp0
        by_cases htx : tx = []
        · subst htx
          rw [textOf, if_pos rfl] at HE
          have hte := empty_yes
          by_cases hgo : 0 < gone
          · rw [goneOf, if_pos hgo] at HE
            have HLEN0 : Hid (out0.length ≤ 3221225472) := HOL.out
            go_wp2_with (first
              | (at_builtin
                 refine wpList_push rfl (.tmp 100) (.tmp 103) rfl w (.slice A0 out0.length c0) out0 ⟨3, gone, []⟩ rfl HOWN0.out HB0.out rfl (by have := HLEN0.out; omega) ?_
                 intro out1 A1 c1 w1 ho1 hown1 hb1
                 have HO1 := Lib.hid ho1; have HOWN1 := Lib.hid hown1; have HB1 := Lib.hid hb1
                 have HLEN1 : Hid (out1.length ≤ 3221225473) := by show _ ≤ _; rw [HO1.out, List.length_append]; have := HLEN0.out; simp only [List.length_cons, List.length_nil]; omega
                 clear ho1 hown1 hb1)
              | fail)
            go_roundw
            case measure => simp [intOf]; omega
            have hO : rNormal l = out1 := by simp [HE.out, HO1.out]
            exact ⟨k + 1, ⟨out1, 0, 0, []⟩, A1, c1, by omega, by go_num, rfl, rfl, rfl, rfl, ⟨fun h => by omega, fun _ => by rw [hO]⟩, HOWN1.out, HB1.out⟩
          · rw [goneOf, if_neg hgo] at HE
            have hgo0 : gone = 0 := by omega
            subst hgo0
            have HLEN0 : Hid (out0.length ≤ 3221225472) := HOL.out
            go_wp2_with fail
            go_roundw
            case measure => simp [intOf]; omega
            have hO : rNormal l = out0 := by simp [HE.out]
            exact ⟨k + 1, ⟨out0, 0, 0, []⟩, A0, c0, by omega, by go_num, rfl, rfl, rfl, rfl, ⟨fun h => by omega, fun _ => by rw [hO]⟩, HOWN0.out, HB0.out⟩
        · have hte := empty_no htx
          rw [textOf, if_neg htx] at HE
          clear htx
          by_cases hgo : 0 < gone
          · rw [goneOf, if_pos hgo] at HE
            have HLEN0 : Hid (out0.length ≤ 3221225472) := HOL.out
            go_wp2_with (first
              | (at_builtin
                 refine wpList_push rfl (.tmp 93) (.tmp 96) rfl w (.slice A0 out0.length c0) out0 ⟨2, 0, tx⟩ rfl HOWN0.out HB0.out rfl (by have := HLEN0.out; omega) ?_
                 intro out1 A1 c1 w1 ho1 hown1 hb1
                 have HO1 := Lib.hid ho1; have HOWN1 := Lib.hid hown1; have HB1 := Lib.hid hb1
                 have HLEN1 : Hid (out1.length ≤ 3221225473) := by show _ ≤ _; rw [HO1.out, List.length_append]; have := HLEN0.out; simp only [List.length_cons, List.length_nil]; omega
                 clear ho1 hown1 hb1)
              | (at_builtin
                 refine wpList_push rfl (.tmp 100) (.tmp 103) rfl w (.slice A1 out1.length c1) out1 ⟨3, gone, []⟩ rfl HOWN1.out HB1.out rfl (by have := HLEN1.out; omega) ?_
                 intro out2 A2 c2 w2 ho2 hown2 hb2
                 have HO2 := Lib.hid ho2; have HOWN2 := Lib.hid hown2; have HB2 := Lib.hid hb2
                 have HLEN2 : Hid (out2.length ≤ 3221225474) := by show _ ≤ _; rw [HO2.out, List.length_append]; have := HLEN1.out; simp only [List.length_cons, List.length_nil]; omega
                 clear ho2 hown2 hb2)
              | fail)
            go_roundw
            case measure => simp [intOf]; omega
            have hO : rNormal l = out2 := by simp [HE.out, HO2.out, HO1.out]
            exact ⟨k + 1, ⟨out2, 0, 0, []⟩, A2, c2, by omega, by go_num, rfl, rfl, rfl, rfl, ⟨fun h => by omega, fun _ => by rw [hO]⟩, HOWN2.out, HB2.out⟩
          · rw [goneOf, if_neg hgo] at HE
            have hgo0 : gone = 0 := by omega
            subst hgo0
            have HLEN0 : Hid (out0.length ≤ 3221225472) := HOL.out
            go_wp2_with (first
              | (at_builtin
                 refine wpList_push rfl (.tmp 93) (.tmp 96) rfl w (.slice A0 out0.length c0) out0 ⟨2, 0, tx⟩ rfl HOWN0.out HB0.out rfl (by have := HLEN0.out; omega) ?_
                 intro out1 A1 c1 w1 ho1 hown1 hb1
                 have HO1 := Lib.hid ho1; have HOWN1 := Lib.hid hown1; have HB1 := Lib.hid hb1
                 have HLEN1 : Hid (out1.length ≤ 3221225473) := by show _ ≤ _; rw [HO1.out, List.length_append]; have := HLEN0.out; simp only [List.length_cons, List.length_nil]; omega
                 clear ho1 hown1 hb1)
              | fail)
            go_roundw
            case measure => simp [intOf]; omega
            have hO : rNormal l = out1 := by simp [HE.out, HO1.out]
            exact ⟨k + 1, ⟨out1, 0, 0, []⟩, A1, c1, by omega, by go_num, rfl, rfl, rfl, rfl, ⟨fun h => by omega, fun _ => by rw [hO]⟩, HOWN1.out, HB1.out⟩
end Go.Proofs.Ytnadhpajelkngaa

/- The document's own Of: an edit of a place. Condition: no text longer than 2^40 bytes. -/
namespace Go.Proofs.Ytnadhpajelkngaa
open Go.RowKit Go.Deep

/-- The parts of an edit of a place. -/
def ofParts (base fr te : Int) (t : List Nat) : List CompV := [⟨1, fr, []⟩, ⟨2, 0, t⟩, ⟨3, te - fr, []⟩, ⟨1, base - te, []⟩]
def OfNo (base fr te : Int) (t : List Nat) : Prop := fr < 0 ∨ te < fr ∨ base < te ∨ ¬ ∃ vs, V t vs
/-- What is told of an edit of a place. -/
def OfEnd (base fr te : Int) (t : List Nat) (w : World) (e : Ending) (w' : World) : Prop :=
  (OfNo base fr te t ∧ e = .returned (.tuple #[.slice none 0 0, .int .i64 1])) ∨
  (¬ OfNo base fr te t ∧ ∃ A c, e = .returned (.tuple #[.slice A (rNormal (ofParts base fr te t)).length c, .int .i64 0]) ∧ w'.ownsRow w.heap.size 54 3 (.slice A (rNormal (ofParts base fr te t)).length c) (rNormal (ofParts base fr te t)).length ((rNormal (ofParts base fr te t)).flatMap compCells))
end Go.Proofs.Ytnadhpajelkngaa

/- The document's own Do: an edit of a text. Conditions: no more than 2^30 bytes of text. -/
namespace Go.Proofs.Ytnadhpajelkngaa
open Go.RowKit Go.Deep

/-- What is told of an edit of a text. -/
def DoEnd (t : List Nat) (l : List CompV) (e : Ending) : Prop :=
  (rCheck l ≠ 0 ∧ e = .returned (.tuple #[.string { data := #[] }, .int .i64 (rCheck l : Int)])) ∨
  (rCheck l = 0 ∧ (¬ ∃ vs, V t vs) ∧ e = .returned (.tuple #[.string { data := #[] }, .int .i64 2])) ∨
  (rCheck l = 0 ∧ ∃ vs, V t vs ∧ (((vs.length : Int) ≠ rBase l ∧ e = .returned (.tuple #[.string { data := #[] }, .int .i64 11])) ∨
    ((vs.length : Int) = rBase l ∧ e = .returned (.tuple #[.string (bstr (doRun vs l).2), .int .i64 0]))))
set_option maxHeartbeats 4000000 in
set_option maxRecDepth 100000 in
theorem refDo_any (t : List Nat) (A : Option Addr) (c : Nat) (l : List CompV) (hb : ∀ x ∈ t, x < 256) (htl : t.length ≤ 1073741824) (hl : l.length ≤ maxLen) (hf : Fine1 l) (htt : tlen l ≤ 1073741824) (w : World) (hc : CompsAt w A l) :
    Calls Try.prog 8 #[.string (bstr t), .slice A l.length c] w fun e w' => DoEnd t l e ∧ Below w.heap.size w w' := by
  have GC := Lib.hid (refCheck_any A c l hl hf w hc)
  have GV := Lib.hid (fun w => refValid_any t hb (by omega) w)
  have GB := Lib.hid (fun w h => refBase_any A c l hl w h)
  have HC := Lib.hid hc; clear hc
  have HF := Lib.hid hf; clear hf
  have HTT := Lib.hid htt; clear htt
  have HTL := Lib.hid htl; clear htl
  have HB := Lib.hid hb; clear hb
  unfold maxLen at hl
  by_cases hz : rCheck l = 0
  · rw [hz] at GC
    by_cases hv : ∃ vs, V t vs
    · obtain ⟨vs, hvs⟩ := hv
      rw [validB_yes hvs] at GV
      have HV := Lib.hid hvs
      have GN := Lib.hid (fun w => refCount_yes HV.out (by have := HTL.out; omega) w)
      have GS := Lib.hid (fun a b h1 h2 w => refSlice_yes HV.out (by have := HTL.out; omega) a b h1 h2 w)
      clear hvs
      have hvl : vs.length ≤ 1073741824 := Nat.le_trans HV.out.length_le HTL.out
      obtain ⟨p, HP⟩ : ∃ x, Hid (rBase l = x) := ⟨_, Lib.hid rfl⟩
      have HP2 : Hid (p ≤ 2000) := by show p ≤ 2000; rw [← HP.out]; exact (check_zero hz).2.2.1
      have HP0 : Hid (0 ≤ p) := by show 0 ≤ p; rw [← HP.out]; exact (rBase_fit l).1
      have HFA := Lib.hid (check_zero hz).2.1.fair
      have HLEN := Lib.hid (check_zero hz).1
      have HSUM : Hid (sumT l = p) := by show _ = _; rw [← HP.out]; exact sum_base HFA.out (check_zero hz).2.2.1
      rw [HP.out] at GB
      have HZ := Lib.hid hz; clear hz
      by_cases hbl : (vs.length : Int) = p
      · have hne : ((vs.length : Int) != p) = false := by rw [bne_eq_false_iff_eq]; exact hbl
        have HBL := Lib.hid hbl
        clear hbl
        have HEND : Hid (DoEnd t l (.returned (.tuple #[.string (bstr (doRun vs l).2), .int .i64 0]))) := .inr (.inr ⟨HZ.out, vs, HV.out, .inr ⟨by rw [HP.out]; exact HBL.out, rfl⟩⟩)
        have HRL : Hid (∀ k, (doRun vs (l.take k)).2.length ≤ 108447924224) := fun k => by
          have h1 := doRun_len vs (by rw [HV.out.bytes]; exact HTL.out) (l.take k)
          have h2 := tlen_take l k
          have h3 := HTT.out
          have h4 : (l.take k).length ≤ 100 := by rw [List.length_take]; have := HLEN.out; omega
          have h5 : (l.take k).length * 1073741824 ≤ 100 * 1073741824 := Nat.mul_le_mul_right _ h4
          omega
        go_enter Try.func8, Try.ntmps8
        go_wp2_with fail
        refine GC.out.mono ?_
        rintro e w1 ⟨rfl, hb1⟩
        have HB1 := Lib.hid hb1; clear hb1
        go_wp2_with fail
        refine (GV.out w1).mono ?_
        rintro e w2 ⟨rfl, hb2⟩
        have HB2 : Hid (Below w.heap.size w w2) := HB1.out.trans (hb2.mono HB1.out.size)
        clear hb2
        go_wp2_with fail
        refine (GN.out w2).mono ?_
        rintro e w3 ⟨rfl, hb3⟩
        have HB3 : Hid (Below w.heap.size w w3) := HB2.out.trans (hb3.mono HB2.out.size)
        clear hb3
        go_wp2_with fail
        refine (GB.out w3 (HC.out.below HB3.out)).mono ?_
        rintro e w4 ⟨rfl, rfl⟩
        go_wp2
        go_loopw [7, 8, 9] (fun o a i wr => ∃ k : Nat, k ≤ l.length ∧ i = .int .i64 k ∧ a = .int .i64 (sumT (l.take k)) ∧ o = .string (bstr (doRun vs (l.take k)).2) ∧ w3 = wr) (fun _ _ i _ => l.length - (intOf i).toNat)
        case atStart => exact ⟨0, Nat.zero_le _, rfl, rfl, rfl, rfl⟩
        case round =>
          obtain ⟨k, hk, rfl, rfl, rfl, rfl⟩ := hrel
          have hrl := HRL.out k
          by_cases hlt : k < l.length
          · obtain ⟨b, off, rfl, _⟩ := HC.out.form (by omega)
            obtain ⟨x0, x1, x2⟩ := (HC.out.below HB3.out).at_ hlt
            have HS := Lib.hid (show doRun vs (l.take (k + 1)) = doStep vs (doRun vs (l.take k)) l[k] by rw [List.take_succ_eq_append_getElem hlt, doRun_snoc])
            have HSN := Lib.hid (show sumT (l.take (k + 1)) = sumStep (sumT (l.take k)) l[k] by rw [List.take_succ_eq_append_getElem hlt, sum_snoc])
            have hs0 := (sum_take HFA.out k).1
            have hs1 := (sum_take HFA.out (k + 1)).2
            rw [HSUM.out] at hs1
            have hfy := HFA.out _ (List.getElem_mem hlt)
            have HYT := Lib.hid (HF.out _ (List.getElem_mem hlt)).2
            have HAT := Lib.hid (doRun_at vs (l.take k))
            generalize l[k] = y at x0 x1 x2 HS HSN hfy HYT
            obtain ⟨R, HR⟩ : ∃ R, Hid (doRun vs (l.take k) = R) := ⟨_, Lib.hid rfl⟩
            rw [HR.out] at HS HAT hrl ⊢
            obtain ⟨a0, o0⟩ := R
            simp only at HAT hrl
            rw [← HAT.out] at hs0 HSN ⊢
            obtain ⟨a, rfl⟩ : ∃ a : Nat, a0 = (a : Int) := ⟨a0.toNat, by omega⟩
            obtain ⟨kd, n, tx⟩ := y
            simp only at x0 x1 x2 HYT
            have hp2 := HP2.out
            have HBL2 := HBL.out
            by_cases h1 : kd = 1
            · subst h1
              have hn : 1 ≤ n := by rcases hfy with ⟨_, h⟩ | h; exact h; (simp only at h; omega)
              obtain ⟨m, rfl⟩ : ∃ m : Nat, n = (m : Int) := ⟨n.toNat, by omega⟩
              have HSN2 : Hid (sumT (l.take (k + 1)) = (a : Int) + m) := by show _ = _; rw [HSN.out]; rfl
              rw [HSN2.out] at hs1
              have hle : a + m ≤ vs.length := by omega
              have HSL := Lib.hid (fun w => GS.out a (a + m) (by omega) hle w)
              obtain ⟨P, HPC⟩ : ∃ P, Hid (E ((vs.take (a + m)).drop a) = P) := ⟨_, Lib.hid rfl⟩
              have HPL : Hid (P.length ≤ 1073741824) := by show _ ≤ _; rw [← HPC.out]; exact Nat.le_trans (piece_len vs a (a + m)) (by rw [HV.out.bytes]; exact HTL.out)
              have HS2 : Hid (doRun vs (l.take (k + 1)) = ((a : Int) + m, o0 ++ P)) := by
                show _ = _
                rw [HS.out, ← HPC.out]
                show (_, o0 ++ E ((vs.take ((a : Int) + (m : Int)).toNat).drop (a : Int).toNat)) = _
                rw [show ((a : Int) + (m : Int)).toNat = a + m by omega, Int.toNat_natCast]
              rw [HPC.out] at HSL
              have hadd := fun w => add_bstr o0 P (by omega) (by have := HPL.out; omega) w
              clear hfy HS HSN hs1 HBL2
              go_wp2_with fail
              refine (HSL.out _).mono ?_
              rintro e w9 ⟨rfl, rfl⟩
              go_wp2
              go_roundw
              case rel => exact ⟨k + 1, by omega, by go_num, by rw [HSN2.out], by rw [HS2.out], trivial⟩
              case measure => simp [intOf]; omega
            · have g1 : (kd == 1) = false := beq_eq_false_iff_ne.2 h1
              by_cases h2 : kd = 2
              · subst h2
                have HSN2 : Hid (sumT (l.take (k + 1)) = (a : Int)) := by show _ = _; rw [HSN.out]; rfl
                have HS2 : Hid (doRun vs (l.take (k + 1)) = ((a : Int), o0 ++ tx)) := by show _ = _; rw [HS.out]; rfl
                have hadd := fun w => add_bstr o0 tx (by omega) HYT.out w
                clear hfy HS HSN hs1 HBL2 h1
                go_wp2
                go_roundw
                case rel => exact ⟨k + 1, by omega, by go_num, by rw [HSN2.out], by rw [HS2.out], trivial⟩
                case measure => simp [intOf]; omega
              · have g2 : (kd == 2) = false := beq_eq_false_iff_ne.2 h2
                have h3 : kd = 3 ∧ 1 ≤ n := by
                  rcases hfy with ⟨h, h'⟩ | h
                  · simp only at h h'; omega
                  · exact absurd h h2
                obtain ⟨rfl, hn⟩ := h3
                have HSN2 : Hid (sumT (l.take (k + 1)) = (a : Int) + n) := by show _ = _; rw [HSN.out]; rfl
                have HS2 : Hid (doRun vs (l.take (k + 1)) = ((a : Int) + n, o0)) := by show _ = _; rw [HS.out]; rfl
                rw [HSN2.out] at hs1
                clear hfy HS HSN HBL2 h1 h2
                go_wp2
                go_roundw
                case rel => exact ⟨k + 1, by omega, by go_num, by rw [HSN2.out], by rw [HS2.out], trivial⟩
                case measure => simp [intOf]; omega
          · have hke : l.take k = l := List.take_of_length_le (by omega)
            rw [hke]
            clear hrl
            go_wp2
            go_ret2
            exact ⟨HEND.out, HB3.out⟩
      · have hne : ((vs.length : Int) != p) = true := by rw [bne_iff_ne]; exact hbl
        have HEND : Hid (DoEnd t l (.returned (.tuple #[.string { data := #[] }, .int .i64 11]))) := .inr (.inr ⟨HZ.out, vs, HV.out, .inl ⟨by rw [HP.out]; exact hbl, rfl⟩⟩)
        clear hbl
        go_enter Try.func8, Try.ntmps8
        go_wp2_with fail
        refine GC.out.mono ?_
        rintro e w1 ⟨rfl, hb1⟩
        have HB1 := Lib.hid hb1; clear hb1
        go_wp2_with fail
        refine (GV.out w1).mono ?_
        rintro e w2 ⟨rfl, hb2⟩
        have HB2 : Hid (Below w.heap.size w w2) := HB1.out.trans (hb2.mono HB1.out.size)
        clear hb2
        go_wp2_with fail
        refine (GN.out w2).mono ?_
        rintro e w3 ⟨rfl, hb3⟩
        have HB3 : Hid (Below w.heap.size w w3) := HB2.out.trans (hb3.mono HB2.out.size)
        clear hb3
        go_wp2_with fail
        refine (GB.out w3 (HC.out.below HB3.out)).mono ?_
        rintro e w4 ⟨rfl, rfl⟩
        go_wp2
        go_ret2
        exact ⟨HEND.out, HB3.out⟩
    · have HEND : Hid (DoEnd t l (.returned (.tuple #[.string { data := #[] }, .int .i64 2]))) := .inr (.inl ⟨hz, hv, rfl⟩)
      rw [validB_no hv] at GV
      clear hv hz
      go_enter Try.func8, Try.ntmps8
      go_wp2_with fail
      refine GC.out.mono ?_
      rintro e w1 ⟨rfl, hb1⟩
      have HB1 := Lib.hid hb1; clear hb1
      go_wp2_with fail
      refine (GV.out w1).mono ?_
      rintro e w2 ⟨rfl, hb2⟩
      have HB2 : Hid (Below w.heap.size w w2) := HB1.out.trans (hb2.mono HB1.out.size)
      clear hb2
      go_wp2
      go_ret2
      exact ⟨HEND.out, HB2.out⟩
  · have HEND : Hid (DoEnd t l (.returned (.tuple #[.string { data := #[] }, .int .i64 (rCheck l : Int)]))) := .inl ⟨hz, rfl⟩
    obtain ⟨q, HQ⟩ : ∃ q, Hid (rCheck l = q) := ⟨_, Lib.hid rfl⟩
    rw [HQ.out] at GC HEND hz
    have hz' : ((q : Int) == 0) = false := beq_eq_false_iff_ne.2 (by omega)
    have hz2 : ((q : Int) != 0) = true := bne_iff_ne.2 (by omega)
    go_enter Try.func8, Try.ntmps8
    go_wp2_with fail
    refine GC.out.mono ?_
    rintro e w1 ⟨rfl, hb1⟩
    have HB1 := Lib.hid hb1; clear hb1
    go_wp2
    go_ret2
    exact ⟨HEND.out, HB1.out⟩
end Go.Proofs.Ytnadhpajelkngaa

/- The document's own Undo of an edit of a text. Conditions: no more than 2^30 bytes of text. -/
namespace Go.Proofs.Ytnadhpajelkngaa
open Go.RowKit Go.Deep

/-- What is told of what undoes an edit of a text. -/
def UndoEnd (t : List Nat) (l : List CompV) (w : World) (e : Ending) (w' : World) : Prop :=
  (rCheck l ≠ 0 ∧ e = .returned (.tuple #[.slice none 0 0, .int .i64 (rCheck l : Int)])) ∨
  (rCheck l = 0 ∧ (¬ ∃ vs, V t vs) ∧ e = .returned (.tuple #[.slice none 0 0, .int .i64 2])) ∨
  (rCheck l = 0 ∧ ∃ vs, V t vs ∧ (((vs.length : Int) ≠ rBase l ∧ e = .returned (.tuple #[.slice none 0 0, .int .i64 11])) ∨
    ((vs.length : Int) = rBase l ∧ ∃ A c, e = .returned (.tuple #[.slice A (rNormal (undoRun vs l).2).length c, .int .i64 0]) ∧ w'.ownsRow w.heap.size 54 3 (.slice A (rNormal (undoRun vs l).2).length c) (rNormal (undoRun vs l).2).length ((rNormal (undoRun vs l).2).flatMap compCells))))
end Go.Proofs.Ytnadhpajelkngaa

/- The document's own Diff of two texts. Conditions: no more than 2^30 bytes of text. -/
namespace Go.Proofs.Ytnadhpajelkngaa
open Go.RowKit Go.Deep

/-- p is how much two lists have in common at the beginning; s, at the end, behind that. -/
def PreOf (x y : List Nat) (p : Nat) : Prop := p ≤ x.length ∧ p ≤ y.length ∧ (∀ i, i < p → x[i]? = y[i]?) ∧ ¬ (p < x.length ∧ p < y.length ∧ x[p]? = y[p]?)
def SufOf (x y : List Nat) (p s : Nat) : Prop :=
  s ≤ x.length - p ∧ s ≤ y.length - p ∧ (∀ i, i < s → x[x.length - 1 - i]? = y[y.length - 1 - i]?) ∧ ¬ (s < x.length - p ∧ s < y.length - p ∧ x[x.length - 1 - s]? = y[y.length - 1 - s]?)
/-- What is told of two texts. -/
def DiffEnd (a b : List Nat) (w : World) (e : Ending) (w' : World) : Prop :=
  ((¬ (∃ x, V a x) ∨ ¬ ∃ y, V b y) ∧ e = .returned (.tuple #[.slice none 0 0, .int .i64 2])) ∨
  ∃ x y p s, V a x ∧ V b y ∧ PreOf x y p ∧ SufOf x y p s ∧ OfEnd (x.length : Int) (p : Int) ((x.length - s : Nat) : Int) (E ((y.take (y.length - s)).drop p)) w e w'
theorem nz_get (x : List Nat) (i : Nat) : (nz x)[i]? = (x[i]?).map (fun v : Nat => (v : Int)) := by rw [nz, List.getElem?_map]
end Go.Proofs.Ytnadhpajelkngaa

/- What puts a text in the place of another one: its parts. No condition beyond those that each lemma states. -/
namespace Go.Proofs.Ytnadhpajelkngaa

/-- The parts of an edit of a place. -/
theorem of_form {base fr te : Nat} (h1 : fr ≤ te) (h2 : te ≤ base) (h3 : base ≤ 1099511627776) (t : List Nat) :
    rNormal (ofParts base fr te t) = if t = [] ∧ te = fr then keepOf base else keepOf fr ++ textOf t ++ goneOf ((te - fr : Nat) : Int) ++ keepOf ((base - te : Nat) : Int) := by
  have s1 : nStep nStart ⟨1, (fr : Int), []⟩ = ⟨[], fr, 0, []⟩ := by
    rw [nStep, if_neg (by simp), if_neg (by simp)]
    by_cases h : (fr : Int) < 1
    · rw [if_pos (.inr h)]
      have : fr = 0 := by omega
      subst this
      rfl
    · rw [if_neg (by simp only [not_or]; exact ⟨fun e => e rfl, h⟩), if_neg (by simp [nStart])]
      show NS.mk [] (hld 0 fr) 0 [] = _
      rw [hld_zero (by omega) (by omega)]
  have s2 : ∀ s : NS, s.text = [] → nStep s ⟨2, 0, t⟩ = { s with text := t } := fun s h => by
    rw [nStep, if_pos rfl, h, List.nil_append]
  have s3 : nStep ⟨[], fr, 0, t⟩ ⟨3, (te : Int) - (fr : Int), []⟩ = ⟨[], fr, ((te - fr : Nat) : Int), t⟩ := by
    rw [nStep, if_neg (by simp), if_pos rfl]
    show NS.mk [] fr (hld 0 ((te : Int) - (fr : Int))) t = _
    rw [hld_zero (by omega) (by omega), show (te : Int) - (fr : Int) = ((te - fr : Nat) : Int) by omega]
  have e : nRun (ofParts base fr te t) = nStep ⟨[], fr, ((te - fr : Nat) : Int), t⟩ ⟨1, (base : Int) - (te : Int), []⟩ := by
    show nStep (nStep (nStep (nStep nStart ⟨1, (fr : Int), []⟩) ⟨2, 0, t⟩) ⟨3, (te : Int) - (fr : Int), []⟩) ⟨1, (base : Int) - (te : Int), []⟩ = _
    rw [s1, s2 _ rfl, s3]
  rw [rNormal, e]
  by_cases hq : (base : Int) - (te : Int) < 1
  · have hb : base = te := by omega
    subst hb
    rw [nStep, if_neg (by simp), if_neg (by simp), if_pos (.inr hq)]
    by_cases hi : t = [] ∧ base = fr
    · obtain ⟨rfl, rfl⟩ := hi
      rw [if_pos ⟨rfl, rfl⟩]
      simp [NS.flush, textOf, goneOf]
    · rw [if_neg hi]
      simp [NS.flush, keepOf]
  · rw [nStep, if_neg (by simp), if_neg (by simp), if_neg (by simp only [not_or]; exact ⟨fun e => e rfl, hq⟩)]
    by_cases hi : t = [] ∧ te = fr
    · obtain ⟨rfl, rfl⟩ := hi
      rw [if_neg (show ¬ (([] : List Nat) ≠ [] ∨ (0 : Int) < ((te - te : Nat) : Int)) by simp), if_pos ⟨rfl, rfl⟩]
      have : hld (te : Int) ((base : Int) - (te : Int)) = base := by unfold hld; omega
      show NS.flush ⟨[], hld (te : Int) ((base : Int) - (te : Int)), ((te - te : Nat) : Int), []⟩ = _
      rw [this]
      simp [NS.flush, textOf, goneOf]
    · rw [if_neg hi, if_pos (by
        by_cases ht : t = []
        · refine .inr ?_
          show (0 : Int) < ((te - fr : Nat) : Int)
          have : te ≠ fr := fun h => hi ⟨ht, h⟩
          omega
        · exact .inl ht)]
      have e0 : hld 0 ((base : Int) - (te : Int)) = ((base - te : Nat) : Int) := by rw [hld_zero (by omega) (by omega)]; omega
      show NS.flush ⟨NS.flush _, hld 0 ((base : Int) - (te : Int)), 0, []⟩ = _
      rw [e0]
      simp [NS.flush, textOf, goneOf]
end Go.Proofs.Ytnadhpajelkngaa

/- What puts a text in the place of another one, in plain mathematics: its parts, what it does, how much it keeps. No condition beyond those that each lemma states. -/
namespace Go.Proofs.Ytnadhpajelkngaa

/-- How much an edit keeps. -/
def keptS (l : List CompV) : Int := l.foldl (fun m c => if c.kind = 1 then m + c.n else m) 0
theorem keptS_snoc (l : List CompV) (c : CompV) : keptS (l ++ [c]) = if c.kind = 1 then keptS l + c.n else keptS l := by rw [keptS, List.foldl_append]; rfl
theorem kept_fold : ∀ (l : List CompV) (m : Int), l.foldl (fun m c => if c.kind = 1 then m + c.n else m) m = m + keptS l
  | [], m => by simp [keptS]
  | c :: l, m => by
    have e : keptS (c :: l) = l.foldl (fun m c => if c.kind = 1 then m + c.n else m) (if c.kind = 1 then 0 + c.n else 0) := rfl
    rw [List.foldl_cons, kept_fold l, e, kept_fold l]
    split <;> omega
theorem keptS_append (a b : List CompV) : keptS (a ++ b) = keptS a + keptS b := by
  rw [keptS, List.foldl_append, kept_fold b]; rfl
theorem keptS_keep (n : Nat) : keptS (keepOf n) = n := by
  unfold keepOf
  by_cases h : 0 < (n : Int)
  · rw [if_pos h]; simp [keptS]
  · rw [if_neg h]; simp [keptS]; omega
theorem keptS_text (t : List Nat) : keptS (textOf t) = 0 := by
  unfold textOf; split <;> simp [keptS]
theorem keptS_gone (n : Nat) : keptS (goneOf n) = 0 := by
  unfold goneOf; split <;> simp [keptS]
/-- What an edit of a place does, and how much it keeps. -/
theorem of_does {base fr te : Nat} (h1 : fr ≤ te) (h2 : te ≤ base) (h3 : base ≤ 1099511627776) (t : List Nat) (x : List Nat) (hx : x.length = base) :
    ed (rNormal (ofParts base fr te t)) x = x.take fr ++ cps t ++ x.drop te ∧ inS (rNormal (ofParts base fr te t)) = base ∧ keptS (rNormal (ofParts base fr te t)) = (fr : Int) + ((base - te : Nat) : Int) ∧ (rNormal (ofParts base fr te t)).length ≤ 4 := by
  rw [of_form h1 h2 h3]
  by_cases hi : t = [] ∧ te = fr
  · obtain ⟨rfl, rfl⟩ := hi
    rw [if_pos ⟨rfl, rfl⟩, cps_nil, List.append_nil, List.take_append_drop, (ed_keep (by omega) x).1, (ed_keep (by omega) x).2, keptS_keep]
    refine ⟨by rw [Int.toNat_natCast, ← hx, List.take_length], by simp, by omega, ?_⟩
    unfold keepOf; split <;> simp
  · rw [if_neg hi]
    have e1 : ∀ n : Nat, (keepOf n).length ≤ 1 := fun n => by unfold keepOf; split <;> simp
    have e2 : (textOf t).length ≤ 1 := by unfold textOf; split <;> simp
    have e3 : ∀ n : Nat, (goneOf n).length ≤ 1 := fun n => by unfold goneOf; split <;> simp
    refine ⟨?_, ?_, ?_, ?_⟩
    · rw [ed_append, ed_append, ed_append, (ed_keep (by omega) _).1, (ed_text _ _).1, (ed_gone (by omega) _).1, (ed_keep (by omega) _).1, inS_append, inS_append, (ed_keep (by omega) x).2, (ed_text t x).2, (ed_gone (by omega) x).2, List.append_nil]
      simp only [Int.toNat_natCast]
      rw [show fr + 0 + (te - fr) = te by omega]
      rw [show List.take (base - te) (List.drop te x) = List.drop te x from List.take_of_length_le (by rw [List.length_drop]; omega)]
    · rw [inS_append, inS_append, inS_append, (ed_keep (by omega) x).2, (ed_text t x).2, (ed_gone (by omega) x).2, (ed_keep (by omega) x).2]
      simp only [Int.toNat_natCast]
      omega
    · rw [keptS_append, keptS_append, keptS_append, keptS_keep, keptS_text, keptS_gone, keptS_keep]
      omega
    · have := e1 fr; have := e3 (te - fr); have := e1 (base - te)
      rw [List.length_append, List.length_append, List.length_append]
      omega
theorem ofParts_allV {base fr te : Int} {t : List Nat} (ht : ∃ vs, V t vs) : AllV (ofParts base fr te t) := by
  intro y hy
  rcases List.mem_cons.1 hy with rfl | hy
  · exact ⟨[], V.nil⟩
  rcases List.mem_cons.1 hy with rfl | hy
  · exact ht
  rcases List.mem_cons.1 hy with rfl | hy
  · exact ⟨[], V.nil⟩
  rcases List.mem_cons.1 hy with rfl | hy
  · exact ⟨[], V.nil⟩
  · cases hy
theorem of_ch {base fr te : Int} {t : List Nat} (ht : ∃ vs, V t vs) : Ch 0 (rNormal (ofParts base fr te t)) :=
  ch_of_nm (norm_nm _) fun y hy _ => run_allV _ (ofParts_allV ht) y hy
theorem of_ok {base fr te : Nat} (h1 : fr ≤ te) (h2 : te ≤ base) (h3 : base ≤ 2000) {t : List Nat} (ht : ∃ vs, V t vs) (h4 : fr + (cps t).length + (base - te) ≤ 2000) : Ok (rNormal (ofParts base fr te t)) := by
  have hd := of_does h1 h2 (by omega) t (List.replicate base 0) (by rw [List.length_replicate])
  have hc := of_ch (base := base) (fr := fr) (te := te) ht
  have hl := ed_length (rNormal (ofParts base fr te t)) (List.replicate base 0) hc.wh (by rw [List.length_replicate, hd.2.1]; exact Nat.le_refl _)
  rw [hd.1] at hl
  simp at hl
  exact ok_mk (by have := hd.2.2.2; omega) hc.nrm (by rw [hd.2.1]; exact h3) (by omega)
/-- What two lists have in common at the beginning and at the end. -/
theorem pre_suf {x y : List Nat} {p s : Nat} (hp : PreOf x y p) (hs : SufOf x y p s) : p ≤ x.length - s ∧ x.length - s ≤ x.length ∧ p ≤ y.length - s ∧ x.take p ++ (y.take (y.length - s)).drop p ++ x.drop (x.length - s) = y := by
  obtain ⟨p1, p2, p3, _⟩ := hp
  obtain ⟨s1, s2, s3, _⟩ := hs
  refine ⟨by omega, by omega, by omega, ?_⟩
  have e1 : x.take p = y.take p := by
    apply List.ext_getElem?
    intro i
    rw [List.getElem?_take, List.getElem?_take]
    split
    · next h => exact p3 i h
    · rfl
  have e2 : x.drop (x.length - s) = y.drop (y.length - s) := by
    apply List.ext_getElem?
    intro i
    rw [List.getElem?_drop, List.getElem?_drop]
    by_cases h : i < s
    · have := s3 (s - 1 - i) (by omega)
      rw [show x.length - s + i = x.length - 1 - (s - 1 - i) by omega, show y.length - s + i = y.length - 1 - (s - 1 - i) by omega]
      exact this
    · rw [List.getElem?_eq_none (by omega), List.getElem?_eq_none (by omega)]
  rw [e1, e2, show y.take p = (y.take (y.length - s)).take p by rw [List.take_take, Nat.min_eq_left (by omega)], List.take_append_drop, List.take_append_drop]
theorem common_kept {h a b t : List Nat} {p s : Nat} (hp : PreOf (h ++ a ++ t) (h ++ b ++ t) p) (hs : SufOf (h ++ a ++ t) (h ++ b ++ t) p s) : h.length + t.length ≤ p + s := by
  obtain ⟨p1, p2, p3, p4⟩ := hp
  obtain ⟨s1, s2, s3, s4⟩ := hs
  have lx : (h ++ a ++ t).length = h.length + a.length + t.length := by rw [List.length_append, List.length_append]
  have ly : (h ++ b ++ t).length = h.length + b.length + t.length := by rw [List.length_append, List.length_append]
  have hh : h.length ≤ p := by
    rcases Nat.lt_or_ge p h.length with hlt | hge
    · exfalso
      refine p4 ⟨by omega, by omega, ?_⟩
      rw [List.append_assoc, List.append_assoc, List.getElem?_append_left hlt, List.getElem?_append_left hlt]
    · exact hge
  rcases Nat.lt_or_ge (p + s) (h.length + t.length) with hlt | hge
  · exfalso
    have hst : s < t.length := by omega
    refine s4 ⟨by omega, by omega, ?_⟩
    rw [List.getElem?_append_right (by rw [List.length_append]; omega), List.getElem?_append_right (by rw [List.length_append]; omega)]
    congr 1
    rw [lx, ly, List.length_append, List.length_append]
    omega
  · exact hge
theorem pre_same {x : List Nat} {p s : Nat} (hp : PreOf x x p) (hs : SufOf x x p s) : p = x.length ∧ s = 0 := by
  obtain ⟨p1, _, _, p4⟩ := hp
  have : p = x.length := by
    rcases Nat.lt_or_ge p x.length with h | h
    · exact absurd ⟨h, h, rfl⟩ p4
    · omega
  have := hs.1
  omega
end Go.Proofs.Ytnadhpajelkngaa

/- What Do answers, as functions of what came in: its error, its text. Condition: no more than 2^30 bytes of text. -/
namespace Go.Proofs.Ytnadhpajelkngaa
open Go.RowKit Go.Deep
open Classical in
/-- Do's error. -/
noncomputable def dErr (t : List Nat) (l : List CompV) : Nat := if rCheck l ≠ 0 then rCheck l else if ¬ ∃ vs, V t vs then 2 else if ((cps t).length : Int) ≠ rBase l then 11 else 0
/-- Do's text. -/
noncomputable def dTxt (t : List Nat) (l : List CompV) : List Nat := if dErr t l = 0 then (doRun (cps t) l).2 else []
theorem dErr_check {t : List Nat} {l : List CompV} (h : rCheck l ≠ 0) : dErr t l = rCheck l := by rw [dErr, if_pos h]
theorem dErr_bad {t : List Nat} {l : List CompV} (h : rCheck l = 0) (hv : ¬ ∃ vs, V t vs) : dErr t l = 2 := by rw [dErr, if_neg (by simp [h]), if_pos hv]
theorem dErr_text {t vs : List Nat} {l : List CompV} (h : rCheck l = 0) (hv : V t vs) (hn : (vs.length : Int) ≠ rBase l) : dErr t l = 11 := by
  rw [dErr, if_neg (by simp [h]), if_neg (fun hh => hh ⟨vs, hv⟩), cps_of hv, if_pos hn]
theorem dErr_ok {t vs : List Nat} {l : List CompV} (h : rCheck l = 0) (hv : V t vs) (hn : (vs.length : Int) = rBase l) : dErr t l = 0 := by
  rw [dErr, if_neg (by simp [h]), if_neg (fun hh => hh ⟨vs, hv⟩), cps_of hv, if_neg (by simp [hn])]
theorem dErr_zero {t : List Nat} {l : List CompV} (h : dErr t l = 0) : rCheck l = 0 ∧ ∃ vs, V t vs ∧ (vs.length : Int) = rBase l := by
  by_cases h1 : rCheck l = 0
  · by_cases h2 : ∃ vs, V t vs
    · obtain ⟨vs, hv⟩ := h2
      by_cases h3 : (vs.length : Int) = rBase l
      · exact ⟨h1, vs, hv, h3⟩
      · rw [dErr_text h1 hv h3] at h; cases h
    · rw [dErr_bad h1 h2] at h; cases h
  · rw [dErr_check h1] at h; exact absurd h h1
theorem DoEnd.eq {t : List Nat} {l : List CompV} {e : Ending} (h : DoEnd t l e) : e = .returned (.tuple #[.string (bstr (dTxt t l)), .int .i64 (dErr t l : Int)]) := by
  rcases h with ⟨hz, rfl⟩ | ⟨hz, hv, rfl⟩ | ⟨hz, vs, hv, ⟨hne, rfl⟩ | ⟨heq, rfl⟩⟩
  · rw [dTxt, dErr_check hz, if_neg hz]; rfl
  · rw [dTxt, dErr_bad hz hv, if_neg (by decide)]; rfl
  · rw [dTxt, dErr_text hz hv hne, if_neg (by decide)]; rfl
  · rw [dTxt, dErr_ok hz hv heq, if_pos rfl, cps_of hv]; rfl
theorem wh_tlen : ∀ (l : List CompV), (∀ c ∈ l, Wh c) → tlen l ≤ 4 * outS l
  | [], _ => by simp [tlen]
  | c :: l, h => by
    have ih := wh_tlen l fun x hx => h x (by simp [hx])
    have h1 : tlen (c :: l) = c.text.length + tlen l := by simp [tlen]
    rw [h1, outS_cons]
    rcases (h c (by simp)).cases with ⟨hk, _, ht⟩ | ⟨hk, _, ht⟩ | ⟨hk, _, _, ht⟩
    · rw [ht]; simp; omega
    · rw [ht]; simp; omega
    · have := cps_V ht
      have h2 := E_length_le4 (cps c.text)
      rw [this.bytes] at h2
      rw [out_two hk]
      omega
theorem Ok.tlen {l : List CompV} (h : Ok l) : tlen l ≤ 8000 := by have := wh_tlen l h.wh; have := h.out1; omega
theorem dTxt_ed {s x : List Nat} {l : List CompV} (hz : rCheck l = 0) (hx : V s x) (hn : (x.length : Int) = rBase l) : dTxt s l = E (ed l x) := by
  rw [dTxt, if_pos (dErr_ok hz hx hn), cps_of hx, doRun_ed x (ok_of hz).wh]
/-- A text that Do made is not long. -/
theorem dTxt_small (s : List Nat) (l : List CompV) : (∀ y ∈ dTxt s l, y < 256) ∧ (dTxt s l).length ≤ 8000 := by
  by_cases h : dErr s l = 0
  · obtain ⟨hz, x, hx, hn⟩ := dErr_zero h
    have hok := ok_of hz
    have hb := hok.base
    have hlen := ed_length l x hok.wh (by omega)
    have ho := hok.out1
    have he := E_length_le4 (ed l x)
    rw [dTxt_ed hz hx hn]
    exact ⟨E_lt (ed_may l x hok.wh hx.may), by omega⟩
  · rw [dTxt, if_neg h]
    exact ⟨by simp, by simp⟩
end Go.Proofs.Ytnadhpajelkngaa
