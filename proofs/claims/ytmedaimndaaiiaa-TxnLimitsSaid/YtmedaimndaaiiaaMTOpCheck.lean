/- The landed check of normal parts, and Check. Condition: no slice is longer than memory, no text longer than 2^40 bytes. -/
import Derived.Test.YtmedaimndaaiiaaMTOpLen
import Derived.Test.YtmedaimndaaiiaaMUw
import Derived.Test.YtmedaimndaaiiaaMCells
/- The landed check of normal parts, and Check. Condition: no slice is longer than memory, no text longer than 2^40 bytes. -/
namespace Go.Proofs.Ytmedaimndaaiiaa
open Go.RowKit Go.Deep

/-- A part may stand in a normal edit. -/
def Whole (c : CompV) : Prop := ((c.kind = 1 ∨ c.kind = 3) ∧ 1 ≤ c.n ∧ c.text = []) ∨ (c.kind = 2 ∧ c.n = 0 ∧ c.text ≠ [] ∧ ∃ vs, V c.text vs)
/-- What is told of a part. -/
def WholeEnd (kd n : Int) (tx : List Nat) (w : World) (e : Ending) (w' : World) : Prop := ∃ r, (r = true ↔ Whole ⟨kd, n, tx⟩) ∧ e = .returned (.bool r) ∧ Below w.heap.size w w'
theorem empty_no' {l : List Nat} (h : l ≠ []) : ((bstr l).toList != []) = true := by
  have := empty_no h
  cases e : (bstr l).toList with
  | nil => rw [e] at this; simp at this
  | cons a t => rfl
set_option maxHeartbeats 1000000 in
set_option maxRecDepth 100000 in
theorem opWhole_any (kd n : Int) (tx : List Nat) (hb : ∀ x ∈ tx, x < 256) (hl : tx.length ≤ 1099511627776) (w : World) :
    Calls Try.prog 36 #[.agg #[.int .i64 kd, .int .i64 n, .string (bstr tx)]] w (WholeEnd kd n tx w) := by
  have HB := Lib.hid hb; clear hb
  by_cases h13 : kd = 1 ∨ kd = 3
  · by_cases hn : 0 < n
    · by_cases ht : tx = []
      · subst ht
        have hte := empty_yes
        have HR : Hid (Whole ⟨kd, n, []⟩) := .inl ⟨h13, (by show 1 ≤ n; omega), rfl⟩
        rcases h13 with rfl | rfl
        · go_enter Try.func36, Try.ntmps36
          go_wp2
          go_ret
          exact ⟨true, ⟨fun _ => HR.out, fun _ => rfl⟩, rfl, (Below.refl _ _).alloc (Nat.le_refl _) _⟩
        · go_enter Try.func36, Try.ntmps36
          go_wp2
          go_ret
          exact ⟨true, ⟨fun _ => HR.out, fun _ => rfl⟩, rfl, (Below.refl _ _).alloc (Nat.le_refl _) _⟩
      · have hte := empty_no ht
        have HR : Hid (¬ Whole ⟨kd, n, tx⟩) := fun h => by
          rcases h with ⟨_, _, h⟩ | ⟨h, _⟩
          · exact ht h
          · simp only at h; omega
        rcases h13 with rfl | rfl
        · go_enter Try.func36, Try.ntmps36
          go_wp2
          go_ret
          exact ⟨false, ⟨fun h => (by cases h), fun h => absurd h HR.out⟩, rfl, (Below.refl _ _).alloc (Nat.le_refl _) _⟩
        · go_enter Try.func36, Try.ntmps36
          go_wp2
          go_ret
          exact ⟨false, ⟨fun h => (by cases h), fun h => absurd h HR.out⟩, rfl, (Below.refl _ _).alloc (Nat.le_refl _) _⟩
    · have HR : Hid (¬ Whole ⟨kd, n, tx⟩) := fun h => by
        rcases h with ⟨_, h, _⟩ | ⟨h, _⟩
        · simp only at h; omega
        · simp only at h; omega
      rcases h13 with rfl | rfl
      · go_enter Try.func36, Try.ntmps36
        go_wp2
        go_ret
        exact ⟨false, ⟨fun h => (by cases h), fun h => absurd h HR.out⟩, rfl, (Below.refl _ _).alloc (Nat.le_refl _) _⟩
      · go_enter Try.func36, Try.ntmps36
        go_wp2
        go_ret
        exact ⟨false, ⟨fun h => (by cases h), fun h => absurd h HR.out⟩, rfl, (Below.refl _ _).alloc (Nat.le_refl _) _⟩
  · have g1 : (kd == 1) = false := beq_eq_false_iff_ne.2 fun h => h13 (.inl h)
    have g3 : (kd == 3) = false := beq_eq_false_iff_ne.2 fun h => h13 (.inr h)
    by_cases h2 : kd = 2
    · by_cases hn : n = 0
      · subst hn
        by_cases ht : tx = []
        · subst ht
          have hte := empty_yes
          have HR : Hid (¬ Whole ⟨kd, 0, []⟩) := fun h => by
            rcases h with ⟨h, _⟩ | ⟨_, _, h, _⟩
            · exact h13 h
            · exact h rfl
          subst h2
          go_enter Try.func36, Try.ntmps36
          go_wp2
          go_ret
          exact ⟨false, ⟨fun h => (by cases h), fun h => absurd h HR.out⟩, rfl, (Below.refl _ _).alloc (Nat.le_refl _) _⟩
        · have hte := empty_no ht
          have hte' := empty_no' ht
          by_cases hv : ∃ vs, V tx vs
          · have HR : Hid (Whole ⟨kd, 0, tx⟩) := .inr ⟨h2, rfl, ht, hv⟩
            have GV := Lib.hid (fun w => (utfValid_yes hv.choose_spec hl w))
            subst h2
            clear hv
            go_enter Try.func36, Try.ntmps36
            go_wp2_with fail
            refine (GV.out _).mono ?_
            rintro e w1 ⟨rfl, rfl⟩
            go_wp2
            go_ret
            exact ⟨true, ⟨fun _ => HR.out, fun _ => rfl⟩, rfl, (Below.refl _ _).alloc (Nat.le_refl _) _⟩
          · have HR : Hid (¬ Whole ⟨kd, 0, tx⟩) := fun h => by
              rcases h with ⟨h, _⟩ | ⟨_, _, _, h⟩
              · exact h13 h
              · exact hv h
            have GV := Lib.hid (fun w => (utfValid_no hv HB.out hl w))
            subst h2
            clear hv
            go_enter Try.func36, Try.ntmps36
            go_wp2_with fail
            refine (GV.out _).mono ?_
            rintro e w1 ⟨rfl, rfl⟩
            go_wp2
            go_ret
            exact ⟨false, ⟨fun h => (by cases h), fun h => absurd h HR.out⟩, rfl, (Below.refl _ _).alloc (Nat.le_refl _) _⟩
      · have HR : Hid (¬ Whole ⟨kd, n, tx⟩) := fun h => by
          rcases h with ⟨h, _⟩ | ⟨_, h, _⟩
          · exact h13 h
          · exact hn h
        have gn : (n == 0) = false := beq_eq_false_iff_ne.2 hn
        subst h2
        clear hn
        go_enter Try.func36, Try.ntmps36
        go_wp2
        go_ret
        exact ⟨false, ⟨fun h => (by cases h), fun h => absurd h HR.out⟩, rfl, (Below.refl _ _).alloc (Nat.le_refl _) _⟩
    · have g2 : (kd == 2) = false := beq_eq_false_iff_ne.2 h2
      have HR : Hid (¬ Whole ⟨kd, n, tx⟩) := fun h => by
        rcases h with ⟨h, _⟩ | ⟨h, _⟩
        · exact h13 h
        · exact h2 h
      clear h13 h2
      go_enter Try.func36, Try.ntmps36
      go_wp2
      go_ret
      exact ⟨false, ⟨fun h => (by cases h), fun h => absurd h HR.out⟩, rfl, (Below.refl _ _).alloc (Nat.le_refl _) _⟩

set_option maxHeartbeats 4000000 in
set_option maxRecDepth 100000 in
theorem opNormal0_any (A : Option Addr) (c : Nat) (l : List CompV) (hl : l.length ≤ maxLen) (hf : Fine1 l) (w : World) (hc : CompsAt w A l) :
    Calls Try.prog 24 #[.slice A l.length c] w fun e w' => e = .returned (.bool (nrmB l)) ∧ Below w.heap.size w w' := by
  unfold maxLen at hl
  have HC := Lib.hid hc; clear hc
  have HF := Lib.hid hf; clear hf
  obtain ⟨T, HT⟩ : ∃ T, Hid (nrmB l = T) := ⟨_, Lib.hid rfl⟩
  rw [HT.out]
  go_enter Try.func24, Try.ntmps24
  go_wp2
  go_loopw [3, 9] (fun la i wr => ∃ (k : Nat) (a : Int), k ≤ l.length ∧ i = .int .i64 k ∧ la = .int .i64 a ∧ (k = 0 → a = 0) ∧ (0 < k → ∀ p, l[k - 1]? = some p → p.kind = a) ∧ (∀ i c, i < k → l[i]? = some c → NormAt l i c) ∧ Below w.heap.size w wr) (fun _ i _ => l.length - (intOf i).toNat)
  case atStart => exact ⟨0, 0, Nat.zero_le _, rfl, rfl, fun _ => rfl, fun h => by omega, fun i c h => by omega, Below.refl _ _⟩
  case round =>
    obtain ⟨k, la, hk, rfl, rfl, ha0, ha1, hn, hbel⟩ := hrel
    have HA0 := Lib.hid ha0; clear ha0
    have HA1 := Lib.hid ha1; clear ha1
    have HN := Lib.hid hn; clear hn
    have HBEL := Lib.hid hbel; clear hbel
    by_cases hlt : k < l.length
    · obtain ⟨b, off, rfl, _⟩ := HC.out.form (by omega)
      obtain ⟨x0, x1, x2⟩ := (HC.out.below HBEL.out).at_ hlt
      have HGET : Hid (l[k]? = some l[k]) := List.getElem?_eq_getElem hlt
      have HPRE : Hid (0 < k → l[k - 1]? = some l[k - 1]) := fun h => List.getElem?_eq_getElem (by omega)
      have HY := Lib.hid (HF.out l[k] (List.getElem_mem hlt))
      generalize l[k] = y at x0 x1 x2 HGET HY
      have HNO : Hid (¬ NormAt l k y → T = false) := fun h => by rw [← HT.out]; exact nrmB_no fun g => h (g k y HGET.out)
      have HYES : Hid (NormAt l k y → ∀ i c, i < k + 1 → l[i]? = some c → NormAt l i c) := fun h i c hi hc => by
        by_cases e : i = k
        · subst e
          rw [HGET.out] at hc
          injection hc with hc
          subst hc
          exact h
        · exact HN.out i c (by omega) hc
      obtain ⟨kd, n, tx⟩ := y
      simp only at x0 x1 x2
      have hnew : Below wr.heap.size wr (wr.alloc (Obj.cells #[Value.int .i64 kd, Value.int .i64 n, Value.string (bstr tx)] 29)) := (Below.refl _ _).alloc (Nat.le_refl _) _
      have HB1 : Hid (Below w.heap.size w (wr.alloc (Obj.cells #[Value.int .i64 kd, Value.int .i64 n, Value.string (bstr tx)] 29))) := HBEL.out.trans (hnew.mono HBEL.out.size)
      clear hnew
      have GW := Lib.hid (fun w => opWhole_any kd n tx HY.out.1.2.2.1 HY.out.2 w)
      have HSAME : Hid (kd = la → T = false) := fun h => HNO.out fun g => by
        rcases Nat.eq_zero_or_pos k with e | e
        · have := HA0.out e
          rcases g.1 with ⟨g, _⟩ | ⟨g, _⟩ <;> simp only at g <;> omega
        · have h1 := HA1.out e _ (HPRE.out e)
          exact g.2 _ e (HPRE.out e) (by show _ = kd; omega)
      have HLATE : Hid (la = 3 → kd = 2 → T = false) := fun h2 h => HNO.out fun g => by
        rcases Nat.eq_zero_or_pos k with e | e
        · have := HA0.out e; omega
        · have h1 := HA1.out e _ (HPRE.out e)
          rcases g.1 with ⟨g, _⟩ | ⟨_, _, _, _, g⟩
          · simp only at g; omega
          · exact g _ e (HPRE.out e) (by omega)
      have HBAD : Hid (¬ Whole ⟨kd, n, tx⟩ → T = false) := fun h => HNO.out fun g => h (by
        rcases g.1 with g | ⟨h1, h2, h3, h4, _⟩
        · exact .inl g
        · exact .inr ⟨h1, h2, h3, h4⟩)
      have HGOOD : Hid (¬ kd = la → ¬ (la = 3 ∧ kd = 2) → Whole ⟨kd, n, tx⟩ → NormAt l k ⟨kd, n, tx⟩) := fun h1 h2 h => by
        have hp : ∀ p, 0 < k → l[k - 1]? = some p → p.kind = la := fun p h h' => HA1.out h p h'
        refine ⟨?_, fun p h0 h' e => h1 (by have := hp p h0 h'; simp only at e; omega)⟩
        rcases h with g | ⟨g1, g2, g3, g4⟩
        · exact .inl g
        · exact .inr ⟨g1, g2, g3, g4, fun p h0 h' e => h2 ⟨by have := hp p h0 h'; omega, g1⟩⟩
      have HNEXT : Hid (0 < k + 1 → ∀ p, l[k + 1 - 1]? = some p → p.kind = kd) := fun _ p h => by
        rw [Nat.add_sub_cancel, HGET.out] at h
        injection h with h
        subst h
        rfl
      by_cases h3 : la = 3
      · by_cases h2 : kd = 2
        · have HFA := Lib.hid (HLATE.out h3 h2)
          subst h3 h2
          go_wp2
          go_ret
          exact ⟨by rw [HFA.out]; rfl, HB1.out⟩
        · have g2 : (kd == 2) = false := beq_eq_false_iff_ne.2 h2
          by_cases he : kd = la
          · have HFA := Lib.hid (HSAME.out he)
            subst he
            subst h3
            go_wp2
            go_ret
            exact ⟨by rw [HFA.out]; rfl, HB1.out⟩
          · have HG := Lib.hid (HGOOD.out he (fun h => h2 h.2))
            subst h3
            have ge : (kd == 3) = false := beq_eq_false_iff_ne.2 he
            clear he h2
            go_wp2_with fail
            refine (GW.out _).mono ?_
            rintro e w1 ⟨r, hr, rfl, hb1⟩
            have HB2 : Hid (Below w.heap.size w w1) := HB1.out.trans (hb1.mono (by have := HB1.out.size; simpa using this))
            have HR := Lib.hid hr
            have c0 := (hb1.cell (p := ⟨wr.heap.size, 0, none⟩) (by simp)).trans (cell_of_row _ _ _ _ _ _ (heap_alloc_new wr _))
            clear hb1 hr
            cases r with
            | false =>
              have HFA := Lib.hid (HBAD.out fun h => by have := HR.out.2 h; cases this)
              go_wp2
              go_ret
              exact ⟨by rw [HFA.out]; rfl, HB2.out⟩
            | true =>
              have HOK := Lib.hid (HYES.out (HG.out (HR.out.1 rfl)))
              replace c0 : w1.cell? ⟨wr.heap.size, 0, none⟩ = some (.int .i64 kd) := c0
              go_wp2
              go_roundw
              case rel => exact ⟨k + 1, kd, by omega, by go_num, rfl, fun h => by omega, HNEXT.out, HOK.out, HB2.out⟩
              case measure => simp [intOf]; omega
      · have g3 : (la == 3) = false := beq_eq_false_iff_ne.2 h3
        by_cases he : kd = la
        · have HFA := Lib.hid (HSAME.out he)
          subst he
          clear h3
          go_wp2
          go_ret
          exact ⟨by rw [HFA.out]; rfl, HB1.out⟩
        · have HG := Lib.hid (HGOOD.out he (fun h => h3 h.1))
          have ge : (kd == la) = false := beq_eq_false_iff_ne.2 he
          clear he h3
          go_wp2_with fail
          refine (GW.out _).mono ?_
          rintro e w1 ⟨r, hr, rfl, hb1⟩
          have HB2 : Hid (Below w.heap.size w w1) := HB1.out.trans (hb1.mono (by have := HB1.out.size; simpa using this))
          have HR := Lib.hid hr
          have c0 := (hb1.cell (p := ⟨wr.heap.size, 0, none⟩) (by simp)).trans (cell_of_row _ _ _ _ _ _ (heap_alloc_new wr _))
          clear hb1 hr
          cases r with
          | false =>
            have HFA := Lib.hid (HBAD.out fun h => by have := HR.out.2 h; cases this)
            go_wp2
            go_ret
            exact ⟨by rw [HFA.out]; rfl, HB2.out⟩
          | true =>
            have HOK := Lib.hid (HYES.out (HG.out (HR.out.1 rfl)))
            replace c0 : w1.cell? ⟨wr.heap.size, 0, none⟩ = some (.int .i64 kd) := c0
            go_wp2
            go_roundw
            case rel => exact ⟨k + 1, kd, by omega, by go_num, rfl, fun h => by omega, HNEXT.out, HOK.out, HB2.out⟩
            case measure => simp [intOf]; omega
    · have HF : Hid (T = true) := by
        show T = true
        rw [← HT.out]
        exact nrmB_yes fun i c h => HN.out i c (by have := (List.getElem?_eq_some_iff.1 h).1; omega) h
      go_wp2
      go_ret
      exact ⟨by rw [HF.out]; rfl, HBEL.out⟩

theorem opCheck_any (A : Option Addr) (c : Nat) (l : List CompV) (hl : l.length ≤ maxLen) (hf : Fine1 l) (w : World) (hc : CompsAt w A l) :
    Calls Try.prog 13 #[.slice A l.length c] w fun e w' => e = .returned (.int .i64 (rCheck l : Int)) ∧ Below w.heap.size w w' := by
  have HL := Lib.hid hl
  unfold maxLen at hl
  have GN := Lib.hid (opNormal0_any A c l HL.out hf w hc)
  have GB := Lib.hid (fun w h => opBase_any A c l HL.out w h)
  have GO := Lib.hid (fun w h => opOut_any A c l HL.out hf w h)
  have HC := Lib.hid hc; clear hc hf
  obtain ⟨T, HT⟩ : ∃ T, Hid (rCheck l = T) := ⟨_, Lib.hid rfl⟩
  rw [HT.out]
  unfold rCheck at HT
  by_cases h100 : 100 < l.length
  · rw [if_pos h100] at HT
    go_enter Try.func13, Try.ntmps13
    go_wp2
    go_ret
    exact ⟨by rw [← HT.out]; rfl, Below.refl _ _⟩
  · rw [if_neg h100] at HT
    cases hnb : nrmB l with
    | false =>
      rw [hnb, if_pos rfl] at HT
      rw [hnb] at GN
      clear hnb
      go_enter Try.func13, Try.ntmps13
      go_wp2_with fail
      refine GN.out.mono ?_
      rintro e w1 ⟨rfl, hb1⟩
      have HB1 := Lib.hid hb1; clear hb1
      go_wp2
      go_ret
      exact ⟨by rw [← HT.out]; rfl, HB1.out⟩
    | true =>
      rw [hnb, if_neg (by simp)] at HT
      rw [hnb] at GN
      clear hnb
      obtain ⟨p, HP⟩ : ∃ x, Hid (rBase l = x) := ⟨_, Lib.hid rfl⟩
      obtain ⟨q, HQ⟩ : ∃ x, Hid (rOut l = x) := ⟨_, Lib.hid rfl⟩
      rw [HP.out] at GB HT
      rw [HQ.out] at GO HT
      go_enter Try.func13, Try.ntmps13
      go_wp2_with fail
      refine GN.out.mono ?_
      rintro e w1 ⟨rfl, hb1⟩
      have HB1 := Lib.hid hb1; clear hb1
      go_wp2_with fail
      refine (GB.out w1 (HC.out.below HB1.out)).mono ?_
      rintro e w2 ⟨rfl, hb2⟩
      have HB2 : Hid (Below w.heap.size w w2) := HB1.out.trans (hb2.mono HB1.out.size)
      clear hb2
      by_cases hp : 2000 < p
      · rw [if_pos (.inl hp)] at HT
        go_wp2
        go_ret
        exact ⟨by rw [← HT.out]; rfl, HB2.out⟩
      · go_wp2_with fail
        refine (GO.out w2 (HC.out.below HB2.out)).mono ?_
        rintro e w3 ⟨rfl, hb3⟩
        have HB3 : Hid (Below w.heap.size w w3) := HB2.out.trans (hb3.mono HB2.out.size)
        clear hb3
        by_cases hq : 2000 < q
        · rw [if_pos (.inr hq)] at HT
          go_wp2
          go_ret
          exact ⟨by rw [← HT.out]; rfl, HB3.out⟩
        · rw [if_neg (by omega)] at HT
          go_wp2
          go_ret
          exact ⟨by rw [← HT.out]; rfl, HB3.out⟩
end Go.Proofs.Ytmedaimndaaiiaa
