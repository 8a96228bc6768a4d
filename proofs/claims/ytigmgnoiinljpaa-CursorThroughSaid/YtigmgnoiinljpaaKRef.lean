/- Where a place goes through an edit, in plain mathematics: places keep their order; the first, the last; through an edit of a place. No condition beyond those that each lemma states. (Merged of 9 texts.) -/
import Derived.Test.YtigmgnoiinljpaaKEdit
import Derived.Test.YtigmgnoiinljpaaKPt
import Derived.Test.YtigmgnoiinljpaaKUm
import Derived.Test.YtigmgnoiinljpaaKCells
import Derived.Deep.DeepAppendWide
/- The document's own check of normal parts. Condition: no slice is longer than memory, no text longer than 2^40 bytes. -/
namespace Go.Proofs.Ytigmgnoiinljpaa
open Go.RowKit Go.Deep

set_option maxHeartbeats 4000000 in
set_option maxRecDepth 100000 in
theorem refNormal0_any (A : Option Addr) (c : Nat) (l : List CompV) (hl : l.length ≤ maxLen) (hf : Fine1 l) (w : World) (hc : CompsAt w A l) :
    Calls Try.prog 27 #[.slice A l.length c] w fun e w' => e = .returned (.bool (nrmB l)) ∧ Below w.heap.size w w' := by
  unfold maxLen at hl
  have HC := Lib.hid hc; clear hc
  have HF := Lib.hid hf; clear hf
  obtain ⟨T, HT⟩ : ∃ T, Hid (nrmB l = T) := ⟨_, Lib.hid rfl⟩
  rw [HT.out]
  go_enter Try.func27, Try.ntmps27
  go_wp2
  go_loopw [3] (fun i wr => ∃ k : Nat, k ≤ l.length ∧ i = .int .i64 k ∧ (∀ i c, i < k → l[i]? = some c → NormAt l i c) ∧ Below w.heap.size w wr) (fun i _ => l.length - (intOf i).toNat)
  case atStart => exact ⟨0, Nat.zero_le _, rfl, fun i c h => by omega, Below.refl _ _⟩
  case round =>
    obtain ⟨k, hk, rfl, hn, hbel⟩ := hrel
    have HN := Lib.hid hn; clear hn
    have HBEL := Lib.hid hbel; clear hbel
    by_cases hlt : k < l.length
    · obtain ⟨b, off, rfl, _⟩ := HC.out.form (by omega)
      obtain ⟨x0, x1, x2⟩ := (HC.out.below HBEL.out).at_ hlt
      have HGET : Hid (l[k]? = some l[k]) := List.getElem?_eq_getElem hlt
      have HY := Lib.hid (HF.out l[k] (List.getElem_mem hlt))
      generalize l[k] = y at x0 x1 x2 HGET HY
      have HNO : Hid (¬ NormAt l k y → T = false) := fun h => by rw [← HT.out]; exact nrmB_no fun g => h (g k y HGET.out)
      have HYES : Hid (NormAt l k y → ∀ i c, i < k + 1 → l[i]? = some c → NormAt l i c) := fun h i c hi hc => by
        by_cases e : i = k
        · subst e
          rw [HGET.out] at hc
          injection hc with hc
          subst hc
          exact h
        · exact HN.out i c (by omega) hc
      obtain ⟨kd, n, tx⟩ := y
      simp only at x0 x1 x2
      have hnew : Below wr.heap.size wr (wr.alloc (Obj.cells #[Value.int .i64 kd, Value.int .i64 n, Value.string (bstr tx)] 49)) := (Below.refl _ _).alloc (Nat.le_refl _) _
      have HB1 : Hid (Below w.heap.size w (wr.alloc (Obj.cells #[Value.int .i64 kd, Value.int .i64 n, Value.string (bstr tx)] 49))) := HBEL.out.trans (hnew.mono HBEL.out.size)
      clear hnew
      have hsz := bstr_size tx
      have hnew : Below wr.heap.size wr (wr.alloc (Obj.cells #[Value.int .i64 kd, Value.int .i64 n, Value.string (bstr tx)] 49)) := (Below.refl _ _).alloc (Nat.le_refl _) _
      have HB1 : Hid (Below w.heap.size w (wr.alloc (Obj.cells #[Value.int .i64 kd, Value.int .i64 n, Value.string (bstr tx)] 49))) := HBEL.out.trans (hnew.mono HBEL.out.size)
      clear hnew
      have hsz := bstr_size tx
      by_cases h13 : kd = 1 ∨ kd = 3
      · have g2 : (kd == 2) = false := beq_eq_false_iff_ne.2 (by omega)
        by_cases hn1 : 1 ≤ n
        · have hn1' : ¬ n < 1 := by omega
          by_cases htx : tx = []
          · subst htx
            have hte := empty_yes
            by_cases hkz : k = 0
            · have hk0 : ¬ 0 < k := by omega
              have HOK : Hid (NormAt l k ⟨kd, n, []⟩) := ⟨.inl ⟨h13, hn1, rfl⟩, fun p h _ => absurd h hk0⟩
              clear hkz
              rcases h13 with rfl | rfl
              · go_wp2_with fail
                go_region
                go_wp2
                go_roundw
                case rel => exact ⟨k + 1, by omega, by go_num, HYES.out HOK.out, HB1.out.drew⟩
                case measure => simp [intOf]; omega
              · go_wp2_with fail
                go_region
                go_wp2
                go_roundw
                case rel => exact ⟨k + 1, by omega, by go_num, HYES.out HOK.out, HB1.out.drew⟩
                case measure => simp [intOf]; omega
            · obtain ⟨j, HJ⟩ : ∃ j, Hid (k = j + 1) := ⟨k - 1, by show k = k - 1 + 1; omega⟩
              have hjl : j < l.length := by have := HJ.out; omega
              have hk1 : (k : Int) - 1 = (j : Int) := by have := HJ.out; omega
              have hkp : 0 < k := by omega
              have HP : Hid (l[k - 1]? = some l[j]) := by show _ = _; rw [HJ.out]; exact List.getElem?_eq_getElem hjl
              obtain ⟨p0, _, _⟩ := (HC.out.below HB1.out).at_ hjl
              generalize l[j] = p at p0 HP
              obtain ⟨pk, pn, ptx⟩ := p
              simp only at p0
              by_cases hpk : pk = kd
              · have HFA : Hid (T = false) := HNO.out fun h => h.2 _ hkp HP.out hpk
                have gq : (pk == kd) = true := beq_iff_eq.2 hpk
                subst hpk
                rcases h13 with rfl | rfl
                · go_wp2_with fail
                  go_region
                  go_wp2_with fail
                  go_ret
                  exact ⟨by rw [HFA.out]; rfl, HB1.out.drew⟩
                · go_wp2_with fail
                  go_region
                  go_wp2_with fail
                  go_ret
                  exact ⟨by rw [HFA.out]; rfl, HB1.out.drew⟩
              · have HOK : Hid (NormAt l k ⟨kd, n, []⟩) := ⟨.inl ⟨h13, hn1, rfl⟩, fun p h hp => by
                  rw [HP.out] at hp
                  injection hp with hp
                  subst hp
                  exact hpk⟩
                have gq : (pk == kd) = false := beq_eq_false_iff_ne.2 hpk
                clear hpk
                rcases h13 with rfl | rfl
                · go_wp2_with fail
                  go_region
                  go_wp2
                  go_roundw
                  case rel => exact ⟨k + 1, by omega, by go_num, HYES.out HOK.out, HB1.out.drew⟩
                  case measure => simp [intOf]; omega
                · go_wp2_with fail
                  go_region
                  go_wp2
                  go_roundw
                  case rel => exact ⟨k + 1, by omega, by go_num, HYES.out HOK.out, HB1.out.drew⟩
                  case measure => simp [intOf]; omega
          · have HFA : Hid (T = false) := HNO.out fun h => by
              rcases h.1 with h | h
              · exact htx h.2.2
              · rcases h13 with e | e <;> (have := h.1; simp only at this; omega)
            have hte := empty_no htx
            clear htx
            rcases h13 with rfl | rfl
            · go_wp2_with fail
              go_ret
              exact ⟨by rw [HFA.out]; rfl, HB1.out⟩
            · go_wp2_with fail
              go_ret
              exact ⟨by rw [HFA.out]; rfl, HB1.out⟩
        · have HFA : Hid (T = false) := HNO.out fun h => by
            rcases h.1 with h | h
            · exact hn1 h.2.1
            · rcases h13 with e | e <;> (have := h.1; simp only at this; omega)
          have hn1' : n < 1 := by omega
          clear hn1
          rcases h13 with rfl | rfl
          · go_wp2_with fail
            go_ret
            exact ⟨by rw [HFA.out]; rfl, HB1.out⟩
          · go_wp2_with fail
            go_ret
            exact ⟨by rw [HFA.out]; rfl, HB1.out⟩
      · have g1 : (kd == 1) = false := beq_eq_false_iff_ne.2 (by omega)
        have g3 : (kd == 3) = false := beq_eq_false_iff_ne.2 (by omega)
        by_cases h2 : kd = 2
        · subst h2
          clear g1 g3 h13
          by_cases hn0 : n = 0
          · subst hn0
            by_cases htx : tx = []
            · have HFA : Hid (T = false) := HNO.out fun h => by
                rcases h.1 with h | h
                · rcases h.1 with e | e <;> (simp only at e; omega)
                · exact h.2.2.1 htx
              subst htx
              have hte := empty_yes
              go_wp2_with fail
              go_ret
              exact ⟨by rw [HFA.out]; rfl, HB1.out⟩
            · have hte := empty_no htx
              have GV := Lib.hid (refValid_any tx HY.out.1.2.2.1 HY.out.2 (wr.alloc (Obj.cells #[Value.int .i64 2, Value.int .i64 0, Value.string (bstr tx)] 49)))
              by_cases hv : ∃ vs, V tx vs
              · obtain ⟨vs, hvs⟩ := hv
                rw [validB_yes hvs] at GV
                have HVS := Lib.hid hvs; clear hvs
                by_cases hkz : k = 0
                · have hk0 : ¬ 0 < k := by omega
                  have HOK : Hid (NormAt l k ⟨2, 0, tx⟩) := ⟨.inr ⟨rfl, rfl, htx, ⟨vs, HVS.out⟩, fun p h _ => absurd h hk0⟩, fun p h _ => absurd h hk0⟩
                  clear htx hkz
                  go_wp2_with fail
                  refine GV.out.mono ?_
                  rintro e w2 ⟨rfl, hb2⟩
                  have HB2 : Hid (Below w.heap.size w w2) := HB1.out.trans (hb2.mono HB1.out.size)
                  have hc0 : w2.cell? ⟨wr.heap.size, 0, none⟩ = some (.int .i64 2) := by
                    refine (hb2.cell (p := ⟨wr.heap.size, 0, none⟩) (by simp)).trans ?_
                    rw [cell_of_row _ _ _ _ _ _ (heap_alloc_new wr _)]
                    rfl
                  clear hb2
                  go_wp2_with fail
                  go_region
                  go_wp2
                  go_roundw
                  case rel => exact ⟨k + 1, by omega, by go_num, HYES.out HOK.out, HB2.out.drew⟩
                  case measure => simp [intOf]; omega
                · obtain ⟨j, HJ⟩ : ∃ j, Hid (k = j + 1) := ⟨k - 1, by show k = k - 1 + 1; omega⟩
                  have hjl : j < l.length := by have := HJ.out; omega
                  have hk1 : (k : Int) - 1 = (j : Int) := by have := HJ.out; omega
                  have hkp : 0 < k := by omega
                  have HP : Hid (l[k - 1]? = some l[j]) := by show _ = _; rw [HJ.out]; exact List.getElem?_eq_getElem hjl
                  go_wp2_with fail
                  refine GV.out.mono ?_
                  rintro e w2 ⟨rfl, hb2⟩
                  have HB2 : Hid (Below w.heap.size w w2) := HB1.out.trans (hb2.mono HB1.out.size)
                  have hc0 : w2.cell? ⟨wr.heap.size, 0, none⟩ = some (.int .i64 2) := by
                    refine (hb2.cell (p := ⟨wr.heap.size, 0, none⟩) (by simp)).trans ?_
                    rw [cell_of_row _ _ _ _ _ _ (heap_alloc_new wr _)]
                    rfl
                  clear hb2
                  obtain ⟨p0, _, _⟩ := (HC.out.below HB2.out).at_ hjl
                  generalize l[j] = p at p0 HP
                  obtain ⟨pk, pn, ptx⟩ := p
                  simp only at p0
                  by_cases hp3 : pk = 3
                  · subst hp3
                    have HFA : Hid (T = false) := HNO.out fun h => by
                      rcases h.1 with h | h
                      · rcases h.1 with e | e <;> (simp only at e; omega)
                      · exact h.2.2.2.2 _ hkp HP.out rfl
                    clear htx
                    go_wp2_with fail
                    go_ret
                    exact ⟨by rw [HFA.out]; rfl, HB2.out⟩
                  · have gp3 : (pk == 3) = false := beq_eq_false_iff_ne.2 hp3
                    by_cases hp2 : pk = 2
                    · subst hp2
                      have HFA : Hid (T = false) := HNO.out fun h => h.2 _ hkp HP.out rfl
                      clear hp3 gp3 htx
                      go_wp2_with fail
                      go_region
                      go_wp2_with fail
                      go_ret
                      exact ⟨by rw [HFA.out]; rfl, HB2.out.drew⟩
                    · have gp2 : (pk == 2) = false := beq_eq_false_iff_ne.2 hp2
                      have HOK : Hid (NormAt l k ⟨2, 0, tx⟩) := ⟨.inr ⟨rfl, rfl, htx, ⟨vs, HVS.out⟩, fun p h hp => by
                        rw [HP.out] at hp
                        injection hp with hp
                        subst hp
                        exact hp3⟩, fun p h hp => by
                        rw [HP.out] at hp
                        injection hp with hp
                        subst hp
                        exact hp2⟩
                      clear hp3 hp2 htx
                      go_wp2_with fail
                      go_region
                      go_wp2
                      go_roundw
                      case rel => exact ⟨k + 1, by omega, by go_num, HYES.out HOK.out, HB2.out.drew⟩
                      case measure => simp [intOf]; omega
              · have HFA : Hid (T = false) := HNO.out fun h => by
                  rcases h.1 with h | h
                  · rcases h.1 with e | e <;> (simp only at e; omega)
                  · exact hv h.2.2.2.1
                rw [validB_no hv] at GV
                clear htx
                go_wp2_with fail
                refine GV.out.mono ?_
                rintro e w2 ⟨rfl, hb2⟩
                have HB2 : Hid (Below w.heap.size w w2) := HB1.out.trans (hb2.mono HB1.out.size)
                clear hb2
                go_wp2_with fail
                go_ret
                exact ⟨by rw [HFA.out]; rfl, HB2.out⟩
          · have HFA : Hid (T = false) := HNO.out fun h => by
              rcases h.1 with h | h
              · rcases h.1 with e | e <;> (simp only at e; omega)
              · exact hn0 h.2.1
            have gn : (n == 0) = false := beq_eq_false_iff_ne.2 hn0
            have gn' : (n != 0) = true := bne_iff_ne.2 hn0
            clear hn0
            go_wp2_with fail
            go_ret
            exact ⟨by rw [HFA.out]; rfl, HB1.out⟩
        · have HFA : Hid (T = false) := HNO.out fun h => by
            rcases h.1 with h | h
            · exact h13 h.1
            · exact h2 h.1
          have g2 : (kd == 2) = false := beq_eq_false_iff_ne.2 h2
          clear h2 h13
          go_wp2_with fail
          go_ret
          exact ⟨by rw [HFA.out]; rfl, HB1.out⟩
    · have HE : Hid (T = true) := by
        show T = true
        rw [← HT.out]
        exact nrmB_yes fun i c hc => HN.out i c (by have := (List.getElem?_eq_some_iff.1 hc).1; omega) hc
      go_wp2
      go_ret
      exact ⟨by rw [HE.out]; rfl, HBEL.out⟩
end Go.Proofs.Ytigmgnoiinljpaa

/- The document's own Loose, held, Base, Out. Condition: no text of more than 2^40 bytes. -/
namespace Go.Proofs.Ytigmgnoiinljpaa
open Go.RowKit Go.Deep

set_option maxRecDepth 100000 in
theorem refLoose_any (l : List Nat) (hb : ∀ x ∈ l, x < 256) (hl : l.length ≤ 1099511627776) (w : World) :
    Calls Try.prog 43 #[.string (bstr l)] w fun e w' => e = .returned (.int .i64 (loose l : Int)) ∧ w = w' := by
  have HP := Lib.hid (fun i hi w => refPoint_any l hb hl i hi w)
  have HB := Lib.hid hb; clear hb
  have hsz := bstr_size l
  obtain ⟨T, HT⟩ : ∃ T, Hid (loose l = T) := ⟨_, Lib.hid rfl⟩
  have HTL : Hid (T ≤ l.length) := by show _ ≤ _; rw [← HT.out]; exact loose_le l
  rw [HT.out]
  go_enter Try.func43, Try.ntmps43
  go_wp2
  go_loopw [3, 4] (fun k i wr => ∃ p q : Nat, p ≤ l.length ∧ i = .int .i64 p ∧ k = .int .i64 q ∧ q + loose (l.drop p) = T ∧ w = wr) (fun _ i _ => l.length - (intOf i).toNat)
  case atStart => exact ⟨0, 0, Nat.zero_le _, rfl, rfl, by rw [Nat.zero_add]; exact HT.out, rfl⟩
  case round =>
    obtain ⟨p, q, hp, rfl, rfl, hq, rfl⟩ := hrel
    have HQ := Lib.hid hq; clear hq
    by_cases hlt : p < l.length
    · obtain ⟨c, t, hd⟩ : ∃ c t, l.drop p = c :: t := ⟨l[p], l.drop (p + 1), List.drop_eq_getElem_cons hlt⟩
      have hix := fun w => byte_at HB.out hd w
      have hne : l.drop p ≠ [] := by rw [hd]; simp
      have hs1 := lseStep_pos (l.drop p)
      have hs2 := lseStep_le hne
      rw [List.length_drop] at hs2
      have HN := Lib.hid (loose_next hne)
      rw [List.drop_drop] at HN
      have HPT := Lib.hid (fun w => HP.out p hlt w)
      obtain ⟨s, HS⟩ : ∃ s, Hid (lseStep (l.drop p) = s) := ⟨_, Lib.hid rfl⟩
      rw [HS.out] at hs1 hs2 HN
      have HQ2 : Hid (q + 1 + loose (l.drop (p + s)) = T) := by show _ = _; have := HQ.out; rw [HN.out] at this; omega
      have hqt : q < 1099511627776 := by have := HQ2.out; have := HTL.out; omega
      have hpl : p + s ≤ l.length := by omega
      clear hne
      have HD := Lib.hid hd
      clear hd
      by_cases h0 : c = 0
      · subst h0
        have hs : s = 1 := by
          rw [← HS.out, lseStep, HD.out, show st (0 :: t) = none by rw [st_cons, if_pos (by omega), fur_zero, if_pos (.inr (by unfold May; omega))]]
        subst hs
        go_wp2
        go_roundw
        case rel => exact ⟨p + 1, q + 1, hpl, by go_num, by go_num, HQ2.out, trivial⟩
        case measure => simp [intOf]; omega
      · have hc : (c == 0) = false := beq_eq_false_iff_ne.2 h0
        go_wp2_with fail
        refine (HPT.out _).mono ?_
        rintro e w1 ⟨⟨v, t2, hst, rfl⟩ | ⟨hst, rfl⟩, rfl⟩
        · have hs : (enc v).length = s := by rw [← HS.out, lseStep, hst]
          rw [hs]
          clear hst hs
          have hmax : max (s : Int) 1 = (s : Int) := by omega
          go_wp2
          go_roundw
          case rel => exact ⟨p + s, q + 1, hpl, by go_num, by go_num, HQ2.out, trivial⟩
          case measure => simp [intOf]; omega
        · have hs : s = 1 := by rw [← HS.out, lseStep, hst]
          subst hs
          clear hst
          go_wp2
          go_roundw
          case rel => exact ⟨p + 1, q + 1, hpl, by go_num, by go_num, HQ2.out, trivial⟩
          case measure => simp [intOf]; omega
    · have HE : Hid (q = T) := by
        show q = T
        have := HQ.out
        rw [List.drop_eq_nil_of_le (by omega), loose_nil] at this
        omega
      go_wp2
      go_ret
      exact ⟨by rw [← HE.out]; rfl, rfl⟩

theorem refHeld_any (a b : Int) (w : World) :
    Calls Try.prog 29 #[.int .i64 a, .int .i64 b] w fun e w' => e = .returned (.int .i64 (hld a b)) ∧ w = w' := by
  rcases (show a < 0 ∨ (0 ≤ a ∧ a ≤ 1099511627776) ∨ 1099511627776 < a by omega) with h | ⟨h, h'⟩ | h <;> rcases (show b < 0 ∨ (0 ≤ b ∧ b ≤ 1099511627776) ∨ 1099511627776 < b by omega) with g | ⟨g, g'⟩ | g <;>
    rcases (show a + b ≤ 1099511627776 ∨ 1099511627776 < a + b by omega) with k | k <;>
    · go_enter Try.func29, Try.ntmps29
      go_wp2
      all_goals
        go_ret
        refine ⟨Eq.trans (b := Ending.returned (.int .i64 _)) rfl (congrArg (fun n : Int => Ending.returned (.int .i64 n)) ?_), rfl⟩
        unfold hld
        omega

/-- Base, Out. -/
theorem refBase_any (A : Option Addr) (c : Nat) (l : List CompV) (hl : l.length ≤ maxLen) (w : World) (hc : CompsAt w A l) :
    Calls Try.prog 17 #[.slice A l.length c] w fun e w' => e = .returned (.int .i64 (rBase l)) ∧ w = w' := by
  unfold maxLen at hl
  have HC := Lib.hid hc; clear hc
  have GH := Lib.hid (fun a b w => refHeld_any a b w)
  obtain ⟨T, HT⟩ : ∃ T, Hid (rBase l = T) := ⟨_, Lib.hid rfl⟩
  rw [HT.out]
  go_enter Try.func17, Try.ntmps17
  go_wp2
  go_loopw [3, 4] (fun n i wr => ∃ (k : Nat) (m : Int), k ≤ l.length ∧ i = .int .i64 k ∧ n = .int .i64 m ∧ rBase (l.take k) = m ∧ w = wr) (fun _ i _ => l.length - (intOf i).toNat)
  case atStart => exact ⟨0, 0, Nat.zero_le _, rfl, rfl, rfl, rfl⟩
  case round =>
    obtain ⟨k, m, hk, rfl, rfl, hm, rfl⟩ := hrel
    have HM := Lib.hid hm; clear hm
    by_cases hlt : k < l.length
    · obtain ⟨b, off, rfl, _⟩ := HC.out.form (by omega)
      obtain ⟨x0, x1, _⟩ := HC.out.at_ hlt
      have HS := Lib.hid (show rBase (l.take (k + 1)) = baseStep m l[k] by rw [List.take_succ_eq_append_getElem hlt, rBase_snoc, HM.out])
      generalize l[k] = y at x0 x1 HS
      obtain ⟨kd, n, tx⟩ := y
      simp only at x0 x1
      by_cases h1 : kd = 1 ∨ kd = 3
      · rw [baseStep, if_pos h1] at HS
        have HH := Lib.hid (fun w => GH.out m n w)
        obtain ⟨q, HQ⟩ : ∃ q, Hid (hld m n = q) := ⟨_, Lib.hid rfl⟩
        have HS2 : Hid (rBase (l.take (k + 1)) = q) := by show _ = _; rw [HS.out]; exact HQ.out
        rw [HQ.out] at HH
        rcases h1 with rfl | rfl
        · go_wp2_with fail
          refine (HH.out _).mono ?_
          rintro e w1 ⟨rfl, rfl⟩
          go_wp2
          go_roundw
          case rel => exact ⟨k + 1, q, by omega, by go_num, rfl, HS2.out, trivial⟩
          case measure => simp [intOf]; omega
        · go_wp2_with fail
          refine (HH.out _).mono ?_
          rintro e w1 ⟨rfl, rfl⟩
          go_wp2
          go_roundw
          case rel => exact ⟨k + 1, q, by omega, by go_num, rfl, HS2.out, trivial⟩
          case measure => simp [intOf]; omega
      · have g1 : (kd == 1) = false := beq_eq_false_iff_ne.2 fun h => h1 (.inl h)
        have g3 : (kd == 3) = false := beq_eq_false_iff_ne.2 fun h => h1 (.inr h)
        rw [baseStep, if_neg h1] at HS
        clear h1
        go_wp2
        go_roundw
        case rel => exact ⟨k + 1, m, by omega, by go_num, rfl, HS.out, trivial⟩
        case measure => simp [intOf]; omega
    · have HE : Hid (m = T) := by show _ = _; rw [← HM.out, List.take_of_length_le (by omega), HT.out]
      go_wp2
      go_ret
      exact ⟨by rw [← HE.out]; rfl, rfl⟩
theorem refOut_any (A : Option Addr) (c : Nat) (l : List CompV) (hl : l.length ≤ maxLen) (hf : Fine1 l) (w : World) (hc : CompsAt w A l) :
    Calls Try.prog 28 #[.slice A l.length c] w fun e w' => e = .returned (.int .i64 (rOut l)) ∧ w = w' := by
  unfold maxLen at hl
  have HC := Lib.hid hc; clear hc
  have HF := Lib.hid hf; clear hf
  have GH := Lib.hid (fun a b w => refHeld_any a b w)
  obtain ⟨T, HT⟩ : ∃ T, Hid (rOut l = T) := ⟨_, Lib.hid rfl⟩
  rw [HT.out]
  go_enter Try.func28, Try.ntmps28
  go_wp2
  go_loopw [3, 4] (fun n i wr => ∃ (k : Nat) (m : Int), k ≤ l.length ∧ i = .int .i64 k ∧ n = .int .i64 m ∧ rOut (l.take k) = m ∧ w = wr) (fun _ i _ => l.length - (intOf i).toNat)
  case atStart => exact ⟨0, 0, Nat.zero_le _, rfl, rfl, rfl, rfl⟩
  case round =>
    obtain ⟨k, m, hk, rfl, rfl, hm, rfl⟩ := hrel
    have HM := Lib.hid hm; clear hm
    by_cases hlt : k < l.length
    · obtain ⟨b, off, rfl, _⟩ := HC.out.form (by omega)
      obtain ⟨x0, x1, x2⟩ := HC.out.at_ hlt
      have HS := Lib.hid (show rOut (l.take (k + 1)) = outStep m l[k] by rw [List.take_succ_eq_append_getElem hlt, rOut_snoc, HM.out])
      have HY := Lib.hid (HF.out l[k] (List.getElem_mem hlt))
      generalize l[k] = y at x0 x1 x2 HS HY
      obtain ⟨kd, n, tx⟩ := y
      simp only at x0 x1 x2
      by_cases h1 : kd = 1
      · subst h1
        rw [outStep, if_pos rfl] at HS
        have HH := Lib.hid (fun w => GH.out m n w)
        obtain ⟨q, HQ⟩ : ∃ q, Hid (hld m n = q) := ⟨_, Lib.hid rfl⟩
        have HS2 : Hid (rOut (l.take (k + 1)) = q) := by show _ = _; rw [HS.out]; exact HQ.out
        rw [HQ.out] at HH
        go_wp2_with fail
        refine (HH.out _).mono ?_
        rintro e w1 ⟨rfl, rfl⟩
        go_wp2
        go_roundw
        case rel => exact ⟨k + 1, q, by omega, by go_num, rfl, HS2.out, trivial⟩
        case measure => simp [intOf]; omega
      · have g1 : (kd == 1) = false := beq_eq_false_iff_ne.2 h1
        by_cases h2 : kd = 2
        · subst h2
          rw [outStep, if_neg h1, if_pos rfl] at HS
          have HL := Lib.hid (fun w => refLoose_any tx HY.out.1.2.2.1 HY.out.2 w)
          have HH := Lib.hid (fun w => GH.out m (loose tx : Int) w)
          obtain ⟨z, HZ⟩ : ∃ z, Hid (loose tx = z) := ⟨_, Lib.hid rfl⟩
          obtain ⟨q, HQ⟩ : ∃ q, Hid (hld m (loose tx : Int) = q) := ⟨_, Lib.hid rfl⟩
          have HS2 : Hid (rOut (l.take (k + 1)) = q) := by show _ = _; rw [HS.out]; exact HQ.out
          rw [HQ.out] at HH
          rw [HZ.out] at HL HH
          go_wp2_with fail
          refine (HL.out _).mono ?_
          rintro e w1 ⟨rfl, rfl⟩
          go_wp2_with fail
          refine (HH.out _).mono ?_
          rintro e w1 ⟨rfl, rfl⟩
          go_wp2
          go_roundw
          case rel => exact ⟨k + 1, q, by omega, by go_num, rfl, HS2.out, trivial⟩
          case measure => simp [intOf]; omega
        · have g2 : (kd == 2) = false := beq_eq_false_iff_ne.2 h2
          rw [outStep, if_neg h1, if_neg h2] at HS
          clear h1 h2
          go_wp2
          go_roundw
          case rel => exact ⟨k + 1, m, by omega, by go_num, rfl, HS.out, trivial⟩
          case measure => simp [intOf]; omega
    · have HE : Hid (m = T) := by show _ = _; rw [← HM.out, List.take_of_length_le (by omega), HT.out]
      go_wp2
      go_ret
      exact ⟨by rw [← HE.out]; rfl, rfl⟩
end Go.Proofs.Ytigmgnoiinljpaa

/- The document's own Check of an edit. Condition: no slice is longer than memory, no text longer than 2^40 bytes. -/
namespace Go.Proofs.Ytigmgnoiinljpaa
open Go.RowKit Go.Deep

set_option maxRecDepth 100000 in
theorem refCheck_any (A : Option Addr) (c : Nat) (l : List CompV) (hl : l.length ≤ maxLen) (hf : Fine1 l) (w : World) (hc : CompsAt w A l) :
    Calls Try.prog 16 #[.slice A l.length c] w fun e w' => e = .returned (.int .i64 (rCheck l : Int)) ∧ Below w.heap.size w w' := by
  have HL := Lib.hid hl
  unfold maxLen at hl
  have GN := Lib.hid (refNormal0_any A c l HL.out hf w hc)
  have GB := Lib.hid (fun w h => refBase_any A c l HL.out w h)
  have GO := Lib.hid (fun w h => refOut_any A c l HL.out hf w h)
  have HC := Lib.hid hc; clear hc hf
  obtain ⟨T, HT⟩ : ∃ T, Hid (rCheck l = T) := ⟨_, Lib.hid rfl⟩
  rw [HT.out]
  unfold rCheck at HT
  by_cases h100 : 100 < l.length
  · rw [if_pos h100] at HT
    go_enter Try.func16, Try.ntmps16
    go_wp2
    go_ret
    exact ⟨by rw [← HT.out]; rfl, Below.refl _ _⟩
  · rw [if_neg h100] at HT
    cases hnb : nrmB l with
    | false =>
      rw [hnb, if_pos rfl] at HT
      rw [hnb] at GN
      clear hnb
      go_enter Try.func16, Try.ntmps16
      go_wp2_with fail
      refine GN.out.mono ?_
      rintro e w1 ⟨rfl, hb1⟩
      have HB1 := Lib.hid hb1; clear hb1
      go_wp2
      go_ret
      exact ⟨by rw [← HT.out]; rfl, HB1.out⟩
    | true =>
      rw [hnb, if_neg (by simp)] at HT
      rw [hnb] at GN
      clear hnb
      obtain ⟨p, HP⟩ : ∃ x, Hid (rBase l = x) := ⟨_, Lib.hid rfl⟩
      obtain ⟨q, HQ⟩ : ∃ x, Hid (rOut l = x) := ⟨_, Lib.hid rfl⟩
      rw [HP.out] at GB HT
      rw [HQ.out] at GO HT
      go_enter Try.func16, Try.ntmps16
      go_wp2_with fail
      refine GN.out.mono ?_
      rintro e w1 ⟨rfl, hb1⟩
      have HB1 := Lib.hid hb1; clear hb1
      go_wp2_with fail
      refine (GB.out w1 (HC.out.below HB1.out)).mono ?_
      rintro e w2 ⟨rfl, rfl⟩
      by_cases hp : 2000 < p
      · rw [if_pos (.inl hp)] at HT
        go_wp2
        go_ret
        exact ⟨by rw [← HT.out]; rfl, HB1.out⟩
      · go_wp2_with fail
        refine (GO.out w1 (HC.out.below HB1.out)).mono ?_
        rintro e w2 ⟨rfl, rfl⟩
        by_cases hq : 2000 < q
        · rw [if_pos (.inr hq)] at HT
          go_wp2
          go_ret
          exact ⟨by rw [← HT.out]; rfl, HB1.out⟩
        · rw [if_neg (by omega)] at HT
          go_wp2
          go_ret
          exact ⟨by rw [← HT.out]; rfl, HB1.out⟩
end Go.Proofs.Ytigmgnoiinljpaa

/- append of one part, just laid, onto a row of parts of the call's own. Condition: no more than 2^40 parts. -/
namespace Go.Proofs.Ytigmgnoiinljpaa
open Go.RowKit Go.Deep

theorem part_info : (Try.prog.info? 49).map (fun i => (i.zero, i.size, i.bytes)) = some (some (.agg #[.int .i64 0, .int .i64 0, .string { data := #[] }]), 3, 32) := by kernel_rfl
theorem wpList_push {ops : Array Oper} {rest : List Oper} {o : Oper} {a : Act} {w : World} {Q : Exit → Act → World → Prop} (hgd : o.guard = none) (s x : Operand)
    (ho : o.op = .call { callee := .builtin .append, args := #[s, x], argTypes := #[36, 36] })
    (W : World) (v : Value) (out : List CompV) (cr : CompV) (hs : a.eval s = v) (hown : w.ownsRow W.heap.size 49 3 v out.length (out.flatMap compCells)) (hb : Below W.heap.size W w)
    (hx : a.eval x = .slice (some ⟨w.heap.size, 0, none⟩) 1 1) (hlen : out.length ≤ 1099511627776)
    (h : ∀ out' A' c' w', out' = out ++ [cr] → w'.ownsRow W.heap.size 49 3 (.slice A' out'.length c') out'.length (out'.flatMap compCells) → Below W.heap.size W w' → wpList Try.prog ops Q rest (a.put o.dst (.slice A' out'.length c')) w') :
    wpList Try.prog ops Q (o :: rest) a (w.alloc (.cells #[.int .i64 cr.kind, .int .i64 cr.n, .string (bstr cr.text)] 49)) := by
  obtain ⟨i0, hi0, hz0, hz1, hz2⟩ := info_parts part_info
  have hsz := hb.size
  refine wpList_append_own_wide _ hgd s x 36 ho W.heap.size 49 i0 (.agg #[.int .i64 0, .int .i64 0, .string { data := #[] }]) 3 32 Try.underlying36 hi0 hz0 hz1 hz2 rfl (by omega) v out.length (out.flatMap compCells) hs (hown.alloc _) ⟨w.heap.size, 0, none⟩ 1 1 (compCells cr) hx rfl ?_ ?_ (by simp only [maxLen]; omega) (by omega) (by simp; omega) ?_
  · intro j u hj
    rw [Go.WideShapes.add_plain, Nat.zero_add, cell_of_row _ _ _ _ _ _ (heap_alloc_new w _)]
    simpa [compCells] using hj
  · intro u hu; simp [compCells] at hu; rcases hu with rfl | rfl | rfl <;> rfl
  intro v' w' hown' hgr _
  have e : out.flatMap compCells ++ compCells cr = (out ++ [cr]).flatMap compCells := by simp
  have hown2 : w'.ownsRow W.heap.size 49 3 v' (out ++ [cr]).length ((out ++ [cr]).flatMap compCells) := by
    rw [← e, List.length_append]
    exact hown'
  obtain ⟨A', c', rfl⟩ := own_slice hown2
  exact h _ A' c' w' rfl hown2 ((hb.alloc hsz _).grown hgr (by simp; omega) (fun k hk => (hown.lt k hk).1))
end Go.Proofs.Ytigmgnoiinljpaa

/- The document's own Normal of parts. Conditions: no more than 2^30 parts, no more than 2^40 bytes of text. -/
namespace Go.Proofs.Ytigmgnoiinljpaa
open Go.RowKit Go.Deep

/-- What the loop holds. -/
def NRel (l : List CompV) (k : Nat) (s : NS) : Prop := (k ≤ l.length → s = nRun (l.take k)) ∧ (k = l.length + 1 → s = ⟨rNormal l, 0, 0, []⟩)
end Go.Proofs.Ytigmgnoiinljpaa

/- The document's own Of: an edit of a place. Condition: no text longer than 2^40 bytes. -/
namespace Go.Proofs.Ytigmgnoiinljpaa
open Go.RowKit Go.Deep

/-- The parts of an edit of a place. -/
def ofParts (base fr te : Int) (t : List Nat) : List CompV := [⟨1, fr, []⟩, ⟨2, 0, t⟩, ⟨3, te - fr, []⟩, ⟨1, base - te, []⟩]
def OfNo (base fr te : Int) (t : List Nat) : Prop := fr < 0 ∨ te < fr ∨ base < te ∨ ¬ ∃ vs, V t vs
/-- What is told of an edit of a place. -/
def OfEnd (base fr te : Int) (t : List Nat) (w : World) (e : Ending) (w' : World) : Prop :=
  (OfNo base fr te t ∧ e = .returned (.tuple #[.slice none 0 0, .int .i64 1])) ∨
  (¬ OfNo base fr te t ∧ ∃ A c, e = .returned (.tuple #[.slice A (rNormal (ofParts base fr te t)).length c, .int .i64 0]) ∧ w'.ownsRow w.heap.size 49 3 (.slice A (rNormal (ofParts base fr te t)).length c) (rNormal (ofParts base fr te t)).length ((rNormal (ofParts base fr te t)).flatMap compCells))
end Go.Proofs.Ytigmgnoiinljpaa

/- What puts a text in the place of another one: its parts. No condition beyond those that each lemma states. -/
namespace Go.Proofs.Ytigmgnoiinljpaa

/-- The parts of an edit of a place. -/
theorem of_form {base fr te : Nat} (h1 : fr ≤ te) (h2 : te ≤ base) (h3 : base ≤ 1099511627776) (t : List Nat) :
    rNormal (ofParts base fr te t) = if t = [] ∧ te = fr then keepOf base else keepOf fr ++ textOf t ++ goneOf ((te - fr : Nat) : Int) ++ keepOf ((base - te : Nat) : Int) := by
  have s1 : nStep nStart ⟨1, (fr : Int), []⟩ = ⟨[], fr, 0, []⟩ := by
    rw [nStep, if_neg (by simp), if_neg (by simp)]
    by_cases h : (fr : Int) < 1
    · rw [if_pos (.inr h)]
      have : fr = 0 := by omega
      subst this
      rfl
    · rw [if_neg (by simp only [not_or]; exact ⟨fun e => e rfl, h⟩), if_neg (by simp [nStart])]
      show NS.mk [] (hld 0 fr) 0 [] = _
      rw [hld_zero (by omega) (by omega)]
  have s2 : ∀ s : NS, s.text = [] → nStep s ⟨2, 0, t⟩ = { s with text := t } := fun s h => by
    rw [nStep, if_pos rfl, h, List.nil_append]
  have s3 : nStep ⟨[], fr, 0, t⟩ ⟨3, (te : Int) - (fr : Int), []⟩ = ⟨[], fr, ((te - fr : Nat) : Int), t⟩ := by
    rw [nStep, if_neg (by simp), if_pos rfl]
    show NS.mk [] fr (hld 0 ((te : Int) - (fr : Int))) t = _
    rw [hld_zero (by omega) (by omega), show (te : Int) - (fr : Int) = ((te - fr : Nat) : Int) by omega]
  have e : nRun (ofParts base fr te t) = nStep ⟨[], fr, ((te - fr : Nat) : Int), t⟩ ⟨1, (base : Int) - (te : Int), []⟩ := by
    show nStep (nStep (nStep (nStep nStart ⟨1, (fr : Int), []⟩) ⟨2, 0, t⟩) ⟨3, (te : Int) - (fr : Int), []⟩) ⟨1, (base : Int) - (te : Int), []⟩ = _
    rw [s1, s2 _ rfl, s3]
  rw [rNormal, e]
  by_cases hq : (base : Int) - (te : Int) < 1
  · have hb : base = te := by omega
    subst hb
    rw [nStep, if_neg (by simp), if_neg (by simp), if_pos (.inr hq)]
    by_cases hi : t = [] ∧ base = fr
    · obtain ⟨rfl, rfl⟩ := hi
      rw [if_pos ⟨rfl, rfl⟩]
      simp [NS.flush, textOf, goneOf]
    · rw [if_neg hi]
      simp [NS.flush, keepOf]
  · rw [nStep, if_neg (by simp), if_neg (by simp), if_neg (by simp only [not_or]; exact ⟨fun e => e rfl, hq⟩)]
    by_cases hi : t = [] ∧ te = fr
    · obtain ⟨rfl, rfl⟩ := hi
      rw [if_neg (show ¬ (([] : List Nat) ≠ [] ∨ (0 : Int) < ((te - te : Nat) : Int)) by simp), if_pos ⟨rfl, rfl⟩]
      have : hld (te : Int) ((base : Int) - (te : Int)) = base := by unfold hld; omega
      show NS.flush ⟨[], hld (te : Int) ((base : Int) - (te : Int)), ((te - te : Nat) : Int), []⟩ = _
      rw [this]
      simp [NS.flush, textOf, goneOf]
    · rw [if_neg hi, if_pos (by
        by_cases ht : t = []
        · refine .inr ?_
          show (0 : Int) < ((te - fr : Nat) : Int)
          have : te ≠ fr := fun h => hi ⟨ht, h⟩
          omega
        · exact .inl ht)]
      have e0 : hld 0 ((base : Int) - (te : Int)) = ((base - te : Nat) : Int) := by rw [hld_zero (by omega) (by omega)]; omega
      show NS.flush ⟨NS.flush _, hld 0 ((base : Int) - (te : Int)), 0, []⟩ = _
      rw [e0]
      simp [NS.flush, textOf, goneOf]
end Go.Proofs.Ytigmgnoiinljpaa

/- The document's own Through: a place, through an edit that may be. Conditions: the edit is checked, the place within 0 and 2000, no text of more than 2^30 bytes. -/
namespace Go.Proofs.Ytigmgnoiinljpaa
open Go.RowKit Go.Deep

/-- Where a place is behind some parts. -/
def thrStep (p : Int) (after : Bool) (s : Int × Int) (c : CompV) : Int × Int :=
  if c.kind = 1 then (s.1 + c.n, s.2 + min (max (p - s.1) 0) c.n) else if c.kind = 2 then (s.1, if s.1 < p ∨ (s.1 = p ∧ after = true) then s.2 + (loose c.text : Int) else s.2) else (s.1 + c.n, s.2)
def thrRun (p : Int) (after : Bool) (l : List CompV) : Int × Int := l.foldl (thrStep p after) (0, 0)
def rThrough (p : Int) (after : Bool) (l : List CompV) : Int := (thrRun p after l).2
theorem thrRun_snoc (p : Int) (after : Bool) (l : List CompV) (c : CompV) : thrRun p after (l ++ [c]) = thrStep p after (thrRun p after l) c := by rw [thrRun, List.foldl_append]; rfl
theorem thrRun_at (p : Int) (after : Bool) (l : List CompV) : (thrRun p after l).1 = sumT l := by
  have : ∀ (l : List CompV) (s : Int × Int), (l.foldl (thrStep p after) s).1 = l.foldl sumStep s.1 := by
    intro l
    induction l with
    | nil => intro s; rfl
    | cons c l ih =>
      intro s
      rw [List.foldl_cons, List.foldl_cons, ih]
      congr 1
      unfold thrStep sumStep
      split
      · next h => rw [if_neg (by omega)]
      · split <;> rfl
  exact this l (0, 0)
set_option maxHeartbeats 4000000 in
set_option maxRecDepth 100000 in
theorem refThrough_any (p : Int) (hp0 : 0 ≤ p) (hp1 : p ≤ 2000) (after : Bool) (A : Option Addr) (c : Nat) (l : List CompV) (hz : rCheck l = 0) (htt : tlen l ≤ 1073741824) (w : World) (hc : CompsAt w A l) :
    Calls Try.prog 18 #[.int .i64 p, .slice A l.length c, .bool after] w fun e w' => e = .returned (.int .i64 (rThrough p after l)) ∧ Below w.heap.size w w' := by
  have HC := Lib.hid hc; clear hc
  have HTT := Lib.hid htt; clear htt
  have GC := Lib.hid (fun x xs (h : V x xs) h2 w => refCount_yes h h2 w)
  have HFA := Lib.hid (check_zero hz).2.1.fair
  have HTX := Lib.hid (check_zero hz).2.1.text
  have hl := (check_zero hz).1
  have HSUM : Hid (sumT l ≤ 2000) := by show _ ≤ _; rw [sum_base HFA.out (check_zero hz).2.2.1]; exact (check_zero hz).2.2.1
  clear hz
  obtain ⟨T, HT⟩ : ∃ T, Hid (rThrough p after l = T) := ⟨_, Lib.hid rfl⟩
  rw [HT.out]
  go_enter Try.func18, Try.ntmps18
  go_wp2
  go_loopw [7, 8, 9] (fun o n i wr => ∃ (k : Nat) (a m : Int), k ≤ l.length ∧ i = .int .i64 k ∧ o = .int .i64 a ∧ n = .int .i64 m ∧ thrRun p after (l.take k) = (a, m) ∧ 0 ≤ m ∧ m ≤ (k : Int) * 2147483648 ∧ Below w.heap.size w wr) (fun _ _ i _ => l.length - (intOf i).toNat)
  case atStart => exact ⟨0, 0, 0, Nat.zero_le _, rfl, rfl, rfl, rfl, Int.le_refl _, by omega, Below.refl _ _⟩
  case round =>
    obtain ⟨k, a, m, hk, rfl, rfl, rfl, hr, hm0, hm1, hbw⟩ := hrel
    have HR := Lib.hid hr; clear hr
    have HBW := Lib.hid hbw; clear hbw
    by_cases hlt : k < l.length
    · obtain ⟨b, off, rfl, _⟩ := HC.out.form (by omega)
      obtain ⟨x0, x1, x2⟩ := (HC.out.below HBW.out).at_ hlt
      have HS := Lib.hid (show thrRun p after (l.take (k + 1)) = thrStep p after (a, m) l[k] by rw [List.take_succ_eq_append_getElem hlt, thrRun_snoc, HR.out])
      have hs0 := (sum_take HFA.out k).1
      have hs1 := (sum_take HFA.out (k + 1)).2
      have hsn : sumT (l.take (k + 1)) = sumStep (sumT (l.take k)) l[k] := by rw [List.take_succ_eq_append_getElem hlt, sum_snoc]
      have hat : a = sumT (l.take k) := by rw [← thrRun_at p after, HR.out]
      rw [hsn] at hs1
      rw [← hat] at hs0 hs1
      have hsum := HSUM.out
      have hfy := HFA.out _ (List.getElem_mem hlt)
      have HYV := Lib.hid (HTX.out _ (List.getElem_mem hlt))
      have hyt : l[k].text.length ≤ 1073741824 := by have := tlen_get hlt; have := HTT.out; omega
      clear hsn hat
      generalize l[k] = y at x0 x1 x2 HS hs1 hfy HYV hyt
      obtain ⟨kd, n, tx⟩ := y
      simp only at x0 x1 x2 HYV hyt
      by_cases h1 : kd = 1
      · subst h1
        have hn : 1 ≤ n := by rcases hfy with ⟨_, h⟩ | h; exact h; (simp only at h; omega)
        have hs2 : a + n ≤ 2000 := by have : a + n ≤ sumT l := hs1; omega
        have HS2 : Hid (thrRun p after (l.take (k + 1)) = (a + n, m + min (max (p - a) 0) n)) := by show _ = _; rw [HS.out]; rfl
        clear hfy hs1 HS
        by_cases c1 : p ≤ a
        · have HS3 : Hid (thrRun p after (l.take (k + 1)) = (a + n, m)) := by show _ = _; rw [HS2.out, show min (max (p - a) 0) n = 0 by omega, Int.add_zero]
          have c1' : p - a ≤ 0 := by omega
          clear HS2
          go_wp2
          go_roundw
          case rel => exact ⟨k + 1, a + n, m, by omega, by go_num, rfl, by go_num, HS3.out, hm0, by omega, HBW.out⟩
          case measure => simp [intOf]; omega
        · have c1' : 0 < p - a := by omega
          by_cases c2 : p - a ≤ n
          · have HS3 : Hid (thrRun p after (l.take (k + 1)) = (a + n, m + (p - a))) := by show _ = _; rw [HS2.out, show min (max (p - a) 0) n = p - a by omega]
            clear HS2
            go_wp2
            go_roundw
            case rel => exact ⟨k + 1, a + n, m + (p - a), by omega, by go_num, rfl, by go_num, HS3.out, by omega, by omega, HBW.out⟩
            case measure => simp [intOf]; omega
          · have c2' : n < p - a := by omega
            have HS3 : Hid (thrRun p after (l.take (k + 1)) = (a + n, m + n)) := by show _ = _; rw [HS2.out, show min (max (p - a) 0) n = n by omega]
            clear HS2
            go_wp2
            go_roundw
            case rel => exact ⟨k + 1, a + n, m + n, by omega, by go_num, rfl, by go_num, HS3.out, by omega, by omega, HBW.out⟩
            case measure => simp [intOf]; omega
      · have g1 : (kd == 1) = false := beq_eq_false_iff_ne.2 h1
        by_cases h2 : kd = 2
        · subst h2
          obtain ⟨xs, hxs⟩ := HYV.out rfl
          have HLS : Hid (xs.length = loose tx) := hxs.loose.symm
          have GC2 := Lib.hid (fun w => GC.out tx xs hxs (by omega) w)
          rw [HLS.out] at GC2
          have hzl := loose_le tx
          obtain ⟨z, HZZ⟩ : ∃ z, Hid (loose tx = z) := ⟨_, Lib.hid rfl⟩
          rw [HZZ.out] at GC2 hzl
          have hs2 : a ≤ 2000 := by have : a ≤ sumT l := hs1; omega
          have HS2 : Hid (thrRun p after (l.take (k + 1)) = (a, if a < p ∨ (a = p ∧ after = true) then m + (z : Int) else m)) := by show _ = _; rw [HS.out, ← HZZ.out]; rfl
          clear hfy hs1 HS hxs HLS h1
          by_cases c1 : a < p
          · have HS3 : Hid (thrRun p after (l.take (k + 1)) = (a, m + (z : Int))) := by show _ = _; rw [HS2.out, if_pos (.inl c1)]
            clear HS2
            go_wp2_with fail
            refine (GC2.out _).mono ?_
            rintro e w2 ⟨rfl, hb2⟩
            have HB2 : Hid (Below w.heap.size w w2) := HBW.out.trans (hb2.mono HBW.out.size)
            clear hb2
            go_wp2
            go_roundw
            case rel => exact ⟨k + 1, a, m + z, by omega, by go_num, rfl, by go_num, HS3.out, by omega, by omega, HB2.out⟩
            case measure => simp [intOf]; omega
          · by_cases c2 : a = p
            · subst c2
              cases after with
              | true =>
                have HS3 : Hid (thrRun a true (l.take (k + 1)) = (a, m + (z : Int))) := by show _ = _; rw [HS2.out, if_pos (.inr ⟨rfl, rfl⟩)]
                clear HS2
                go_wp2_with fail
                refine (GC2.out _).mono ?_
                rintro e w2 ⟨rfl, hb2⟩
                have HB2 : Hid (Below w.heap.size w w2) := HBW.out.trans (hb2.mono HBW.out.size)
                clear hb2
                go_wp2
                go_roundw
                case rel => exact ⟨k + 1, a, m + z, by omega, by go_num, rfl, by go_num, HS3.out, by omega, by omega, HB2.out⟩
                case measure => simp [intOf]; omega
              | false =>
                have HS3 : Hid (thrRun a false (l.take (k + 1)) = (a, m)) := by show _ = _; rw [HS2.out, if_neg (by simp)]
                clear HS2
                go_wp2
                go_roundw
                case rel => exact ⟨k + 1, a, m, by omega, by go_num, rfl, rfl, HS3.out, hm0, by omega, HBW.out⟩
                case measure => simp [intOf]; omega
            · have g3 : (a == p) = false := beq_eq_false_iff_ne.2 c2
              have HS3 : Hid (thrRun p after (l.take (k + 1)) = (a, m)) := by show _ = _; rw [HS2.out, if_neg (fun h => h.elim c1 fun h => c2 h.1)]
              clear HS2
              go_wp2
              go_roundw
              case rel => exact ⟨k + 1, a, m, by omega, by go_num, rfl, rfl, HS3.out, hm0, by omega, HBW.out⟩
              case measure => simp [intOf]; omega
        · have g2 : (kd == 2) = false := beq_eq_false_iff_ne.2 h2
          have h3 : kd = 3 ∧ 1 ≤ n := by
            rcases hfy with ⟨h, h'⟩ | h
            · simp only at h h'; omega
            · exact absurd h h2
          obtain ⟨rfl, hn⟩ := h3
          have hs2 : a + n ≤ 2000 := by have : a + n ≤ sumT l := hs1; omega
          have HS2 : Hid (thrRun p after (l.take (k + 1)) = (a + n, m)) := by show _ = _; rw [HS.out]; rfl
          clear hfy hs1 HS h1 h2
          go_wp2
          go_roundw
          case rel => exact ⟨k + 1, a + n, m, by omega, by go_num, rfl, rfl, HS2.out, hm0, by omega, HBW.out⟩
          case measure => simp [intOf]; omega
    · have HE : Hid (m = T) := by
        show m = T
        have := HR.out
        rw [List.take_of_length_le (by omega)] at this
        rw [← HT.out, rThrough, this]
      go_wp2
      go_ret
      exact ⟨by rw [← HE.out]; rfl, HBW.out⟩
end Go.Proofs.Ytigmgnoiinljpaa

/- Where a place goes through an edit, in plain mathematics: places keep their order; the first, the last; through an edit of a place. No condition beyond those that each lemma states. -/
namespace Go.Proofs.Ytigmgnoiinljpaa

/-- Where a place goes, part by part. -/
noncomputable def thr (after : Bool) : List CompV → Int → Int
  | [], _ => 0
  | c :: l, p => if c.kind = 1 then min (max p 0) c.n + thr after l (p - c.n) else if c.kind = 2 then (if 0 < p ∨ (p = 0 ∧ after = true) then (loose c.text : Int) else 0) + thr after l p else thr after l (p - c.n)
theorem thr_nil (after : Bool) (p : Int) : thr after [] p = 0 := rfl
theorem thr_one {after : Bool} {c : CompV} (h : c.kind = 1) (l : List CompV) (p : Int) : thr after (c :: l) p = min (max p 0) c.n + thr after l (p - c.n) := by rw [thr, if_pos h]
theorem thr_two {after : Bool} {c : CompV} (h : c.kind = 2) (l : List CompV) (p : Int) : thr after (c :: l) p = (if 0 < p ∨ (p = 0 ∧ after = true) then (loose c.text : Int) else 0) + thr after l p := by rw [thr, if_neg (by omega), if_pos h]
theorem thr_three {after : Bool} {c : CompV} (h : c.kind = 3) (l : List CompV) (p : Int) : thr after (c :: l) p = thr after l (p - c.n) := by rw [thr, if_neg (by omega), if_neg (by omega)]
theorem thrRun_thr (p : Int) (after : Bool) : ∀ (l : List CompV) (o n : Int), (l.foldl (thrStep p after) (o, n)).2 = n + thr after l (p - o)
  | [], o, n => by rw [List.foldl_nil, thr_nil]; omega
  | c :: l, o, n => by
    rw [List.foldl_cons]
    by_cases h1 : c.kind = 1
    · rw [thrStep, if_pos h1, thrRun_thr p after l, thr_one h1, show p - (o + c.n) = p - o - c.n by omega]
      omega
    · by_cases h2 : c.kind = 2
      · rw [thrStep, if_neg h1, if_pos h2, thrRun_thr p after l, thr_two h2]
        by_cases h : o < p ∨ (o = p ∧ after = true)
        · rw [if_pos h, if_pos (by rcases h with h | ⟨h, g⟩; exact .inl (by omega); exact .inr ⟨by omega, g⟩)]
          simp only
          omega
        · rw [if_neg h, if_neg (fun g => h (by rcases g with g | ⟨g, g2⟩; exact .inl (by omega); exact .inr ⟨by omega, g2⟩))]
          simp only
          omega
      · rw [thrStep, if_neg h1, if_neg h2, thrRun_thr p after l, thr, if_neg h1, if_neg h2, show p - (o + c.n) = p - o - c.n by omega]
theorem rThrough_thr (p : Int) (after : Bool) (l : List CompV) : rThrough p after l = thr after l p := by
  rw [rThrough, thrRun, thrRun_thr, Int.sub_zero, Int.zero_add]
theorem thr_append (after : Bool) : ∀ (a b : List CompV) (p : Int), (∀ c ∈ a, Wh c) → thr after (a ++ b) p = thr after a p + thr after b (p - (inS a : Int))
  | [], b, p, _ => by rw [List.nil_append, thr_nil, inS_nil]; simp
  | c :: a, b, p, hw => by
    have ih := fun p => thr_append after a b p fun x hx => hw x (List.mem_cons_of_mem _ hx)
    rw [List.cons_append, inS_cons]
    rcases (hw c (by simp)).cases with ⟨g, gn, _⟩ | ⟨g, gn, _⟩ | ⟨g, _⟩
    · rw [thr_one g, thr_one g, ih, in_one g, show p - c.n - (inS a : Int) = p - ((c.n.toNat + inS a : Nat) : Int) by omega]; omega
    · rw [thr_three g, thr_three g, ih, in_three g, show p - c.n - (inS a : Int) = p - ((c.n.toNat + inS a : Nat) : Int) by omega]
    · rw [thr_two g, thr_two g, ih, in_two g, Nat.zero_add]; omega
theorem thr_mono (after : Bool) : ∀ (l : List CompV) {p q : Int}, p ≤ q → thr after l p ≤ thr after l q
  | [], _, _, _ => Int.le_refl _
  | c :: l, p, q, h => by
    by_cases h1 : c.kind = 1
    · have := thr_mono after l (p := p - c.n) (q := q - c.n) (by omega)
      rw [thr_one h1, thr_one h1]; omega
    · by_cases h2 : c.kind = 2
      · have := thr_mono after l h
        rw [thr_two h2, thr_two h2]
        by_cases hp : 0 < p ∨ (p = 0 ∧ after = true)
        · rw [if_pos hp, if_pos (by rcases hp with g | ⟨g, g2⟩; exact .inl (by omega); (rcases Int.lt_or_eq_of_le h with e | e; exact .inl (by omega); exact .inr ⟨by omega, g2⟩))]
          omega
        · rw [if_neg hp]
          split <;> omega
      · have := thr_mono after l (p := p - c.n) (q := q - c.n) (by omega)
        rw [thr, thr, if_neg h1, if_neg h2, if_neg h1, if_neg h2]; exact this
theorem thr_le (after : Bool) : ∀ (l : List CompV) (p : Int), (∀ c ∈ l, Wh c) → 0 ≤ thr after l p ∧ thr after l p ≤ (outS l : Int)
  | [], _, _ => by rw [thr_nil, outS_nil]; omega
  | c :: l, p, hw => by
    have ih := fun p => thr_le after l p fun x hx => hw x (List.mem_cons_of_mem _ hx)
    rw [outS_cons]
    rcases (hw c (by simp)).cases with ⟨g, gn, _⟩ | ⟨g, gn, _⟩ | ⟨g, _, _, gv⟩
    · have := ih (p - c.n); rw [thr_one g, out_one g]; omega
    · have := ih (p - c.n); rw [thr_three g, out_three g]; omega
    · have := ih p; have := cps_loose gv; rw [thr_two g, out_two g]; split <;> omega
theorem thr_first (after : Bool) : ∀ (l : List CompV) (p : Int), (∀ c ∈ l, Wh c) → p ≤ 0 → (p = 0 → after = false) → thr after l p = 0
  | [], _, _, _, _ => thr_nil _ _
  | c :: l, p, hw, h, ha => by
    have ih := fun p => thr_first after l p fun x hx => hw x (List.mem_cons_of_mem _ hx)
    rcases (hw c (by simp)).cases with ⟨g, gn, _⟩ | ⟨g, gn, _⟩ | ⟨g, _⟩
    · rw [thr_one g, ih _ (by omega) (by omega)]; omega
    · rw [thr_three g, ih _ (by omega) (by omega)]
    · rw [thr_two g, ih _ h ha, if_neg (by rintro (e | ⟨e, e2⟩); omega; (rw [ha e] at e2; cases e2))]; rfl
theorem thr_last (after : Bool) : ∀ (l : List CompV) (p : Int), (∀ c ∈ l, Wh c) → (inS l : Int) ≤ p → (p = (inS l : Int) → after = true) → thr after l p = (outS l : Int)
  | [], _, _, _, _ => by rw [thr_nil, outS_nil]; rfl
  | c :: l, p, hw, h, ha => by
    have ih := fun p => thr_last after l p fun x hx => hw x (List.mem_cons_of_mem _ hx)
    rw [inS_cons] at h ha
    rw [outS_cons]
    rcases (hw c (by simp)).cases with ⟨g, gn, _⟩ | ⟨g, gn, _⟩ | ⟨g, _, _, gv⟩
    · rw [in_one g] at h ha
      rw [thr_one g, ih _ (by omega) (fun e => ha (by omega)), out_one g]; omega
    · rw [in_three g] at h ha
      rw [thr_three g, ih _ (by omega) (fun e => ha (by omega)), out_three g]; omega
    · rw [in_two g, Nat.zero_add] at h ha
      have := cps_loose gv
      rw [thr_two g, ih _ h ha, out_two g, if_pos (by
        rcases Int.lt_or_eq_of_le (show 0 ≤ p by omega) with e | e
        · exact .inl e
        · exact .inr ⟨e.symm, ha (by omega)⟩)]
      omega
/-- Through an edit of a place. -/
theorem thr_of {base fr te : Nat} (h1 : fr ≤ te) (h2 : te ≤ base) (h3 : base ≤ 1099511627776) {t : List Nat} (ht : ∃ vs, V t vs) (after : Bool) {p : Nat} (hp : p ≤ base) :
    thr after (rNormal (ofParts base fr te t)) p = if p < fr then (p : Int) else if te < p ∨ (p = te ∧ fr < te) then (p : Int) + (cps t).length - ((te : Int) - fr) else if p = fr then (if after then (fr : Int) + (cps t).length else fr) else (fr : Int) + (cps t).length := by
  have hL := cps_loose ht
  rw [of_form h1 h2 h3]
  have wk : ∀ n : Nat, ∀ c ∈ keepOf n, Wh c := fun n c hc => by
    unfold keepOf at hc
    split at hc
    · rw [List.mem_singleton.1 hc]; exact .inl ⟨.inl rfl, by show (1 : Int) ≤ n; omega, rfl⟩
    · cases hc
  have wg : ∀ n : Nat, ∀ c ∈ goneOf n, Wh c := fun n c hc => by
    unfold goneOf at hc
    split at hc
    · rw [List.mem_singleton.1 hc]; exact .inl ⟨.inr rfl, by show (1 : Int) ≤ n; omega, rfl⟩
    · cases hc
  have wt' : ∀ c ∈ textOf t, Wh c := fun c hc => by
    unfold textOf at hc
    split at hc
    · cases hc
    · next h => rw [List.mem_singleton.1 hc]; exact .inr ⟨rfl, rfl, h, ht⟩
  have tk : ∀ (n : Nat) (q : Int), thr after (keepOf n) q = min (max q 0) n := fun n q => by
    unfold keepOf
    split
    · rw [thr_one rfl, thr_nil]; show min (max q 0) (n : Int) + 0 = _; omega
    · rw [thr_nil]; omega
  have tg : ∀ (n : Nat) (q : Int), thr after (goneOf n) q = 0 := fun n q => by
    unfold goneOf
    split
    · rw [thr_three rfl, thr_nil]
    · rw [thr_nil]
  have tt : ∀ (q : Int), thr after (textOf t) q = if 0 < q ∨ (q = 0 ∧ after = true) then ((cps t).length : Int) else 0 := fun q => by
    unfold textOf
    split
    · next h => rw [thr_nil, h, cps_nil]; simp
    · rw [thr_two rfl, thr_nil, hL]; omega
  by_cases hi : t = [] ∧ te = fr
  · obtain ⟨rfl, rfl⟩ := hi
    rw [if_pos ⟨rfl, rfl⟩, tk, cps_nil]
    simp only [List.length_nil]
    cases after
    · simp only [Bool.false_eq_true, if_false]; repeat' split <;> omega
    · simp only [if_true]; repeat' split <;> omega
  · have w2 : ∀ c ∈ keepOf fr ++ textOf t, Wh c := fun c hc => (List.mem_append.1 hc).elim (wk fr c) (wt' c)
    have w3 : ∀ c ∈ keepOf fr ++ textOf t ++ goneOf ((te - fr : Nat) : Int), Wh c := fun c hc => (List.mem_append.1 hc).elim (w2 c) (wg _ c)
    rw [if_neg hi, thr_append after _ _ _ w3, thr_append after _ _ _ w2, thr_append after _ _ _ (wk fr), tk, tt, tg, tk, inS_append, inS_append, (ed_keep (by omega) []).2, (ed_text t []).2, (ed_gone (by omega) []).2]
    simp only [Int.toNat_natCast]
    rw [show fr + 0 + (te - fr) = te by omega]
    cases after
    · simp only [Bool.false_eq_true, and_false, or_false, if_false]
      by_cases c1 : p < fr
      · rw [if_pos c1, if_neg (by omega)]; omega
      · rw [if_neg c1]
        by_cases c2 : te < p ∨ (p = te ∧ fr < te)
        · rw [if_pos c2, if_pos (by omega)]; omega
        · rw [if_neg c2]
          by_cases c3 : p = fr
          · rw [if_pos c3, if_neg (by omega)]; omega
          · rw [if_neg c3, if_pos (by omega)]; omega
    · simp only [and_true, if_true]
      by_cases c1 : p < fr
      · rw [if_pos c1, if_neg (by omega)]; omega
      · rw [if_neg c1, if_pos (by omega)]
        by_cases c2 : te < p ∨ (p = te ∧ fr < te)
        · rw [if_pos c2]; omega
        · rw [if_neg c2]
          by_cases c3 : p = fr
          · rw [if_pos c3]; omega
          · rw [if_neg c3]; omega
end Go.Proofs.Ytigmgnoiinljpaa
