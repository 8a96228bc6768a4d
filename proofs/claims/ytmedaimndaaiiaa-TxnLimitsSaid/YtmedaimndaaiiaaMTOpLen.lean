/- The landed sum, Base, Out, and the parts that retain, insert, remove make. Condition: no text of more than 2^40 bytes. -/
import Derived.Test.YtmedaimndaaiiaaMTOpCount
import Derived.Laws.Rows
/- The landed sum, Base, Out, and the parts that retain, insert, remove make. Condition: no text of more than 2^40 bytes. -/
namespace Go.Proofs.Ytmedaimndaaiiaa
open Go.RowKit Go.Deep

theorem opSum_any (a b : Int) (h0 : 0 ≤ a) (h1 : a ≤ 1099511627776) (w : World) :
    Calls Try.prog 37 #[.int .i64 a, .int .i64 b] w fun e w' => e = .returned (.int .i64 (hld a b)) ∧ w = w' := by
  rcases (show b < 0 ∨ (0 ≤ b ∧ b ≤ 1099511627776) ∨ 1099511627776 < b by omega) with g | ⟨g, g'⟩ | g <;>
    rcases (show a + b ≤ 1099511627776 ∨ 1099511627776 < a + b by omega) with k | k <;>
    · go_enter Try.func37, Try.ntmps37
      go_wp2
      all_goals
        go_ret
        refine ⟨Eq.trans (b := Ending.returned (.int .i64 _)) rfl (congrArg (fun n : Int => Ending.returned (.int .i64 n)) ?_), rfl⟩
        unfold hld
        omega

/-- A part as a value. -/
def compVal (c : CompV) : Value := .agg #[.int .i64 c.kind, .int .i64 c.n, .string (bstr c.text)]
set_option maxHeartbeats 2000000 in
set_option maxRecDepth 100000 in
theorem opBase_any (A : Option Addr) (c : Nat) (l : List CompV) (hl : l.length ≤ maxLen) (w : World) (hc : CompsAt w A l) :
    Calls Try.prog 25 #[.slice A l.length c] w fun e w' => e = .returned (.int .i64 (rBase l)) ∧ Below w.heap.size w w' := by
  unfold maxLen at hl
  have HC := Lib.hid hc; clear hc
  obtain ⟨T, HT⟩ : ∃ T, Hid (rBase l = T) := ⟨_, Lib.hid rfl⟩
  rw [HT.out]
  go_enter Try.func25, Try.ntmps25
  go_wp2
  go_loopw [3, 8] (fun n i wr => ∃ (k : Nat) (m : Int), k ≤ l.length ∧ i = .int .i64 k ∧ n = .int .i64 m ∧ rBase (l.take k) = m ∧ Below w.heap.size w wr) (fun _ i _ => l.length - (intOf i).toNat)
  case atStart => exact ⟨0, 0, Nat.zero_le _, rfl, rfl, rfl, Below.refl _ _⟩
  case round =>
    obtain ⟨k, m, hk, rfl, rfl, hm, hbel⟩ := hrel
    have HM := Lib.hid hm; clear hm
    have HBEL := Lib.hid hbel; clear hbel
    by_cases hlt : k < l.length
    · obtain ⟨b, off, rfl, _⟩ := HC.out.form (by omega)
      obtain ⟨x0, x1, x2⟩ := (HC.out.below HBEL.out).at_ hlt
      have HS := Lib.hid (show rBase (l.take (k + 1)) = baseStep m l[k] by rw [List.take_succ_eq_append_getElem hlt, rBase_snoc, HM.out])
      have HFIT : Hid (0 ≤ m ∧ m ≤ 1099511627776) := by show _ ∧ _; rw [← HM.out]; exact rBase_fit _
      generalize l[k] = y at x0 x1 x2 HS
      obtain ⟨kd, n, tx⟩ := y
      simp only at x0 x1 x2
      have hnew : Below wr.heap.size wr (wr.alloc (Obj.cells #[Value.int .i64 kd, Value.int .i64 n, Value.string (bstr tx)] 29)) := (Below.refl _ _).alloc (Nat.le_refl _) _
      have HB1 : Hid (Below w.heap.size w (wr.alloc (Obj.cells #[Value.int .i64 kd, Value.int .i64 n, Value.string (bstr tx)] 29))) := HBEL.out.trans (hnew.mono HBEL.out.size)
      clear hnew
      by_cases h1 : kd = 1 ∨ kd = 3
      · rw [baseStep, if_pos h1] at HS
        have HH := Lib.hid (fun w => opSum_any m n HFIT.out.1 HFIT.out.2 w)
        obtain ⟨q, HQ⟩ : ∃ q, Hid (hld m n = q) := ⟨_, Lib.hid rfl⟩
        have HS2 : Hid (rBase (l.take (k + 1)) = q) := by show _ = _; rw [HS.out]; exact HQ.out
        rw [HQ.out] at HH
        rcases h1 with rfl | rfl
        · go_wp2_with fail
          refine (HH.out _).mono ?_
          rintro e w1 ⟨rfl, rfl⟩
          go_wp2
          go_roundw
          case rel => exact ⟨k + 1, q, by omega, by go_num, rfl, HS2.out, HB1.out⟩
          case measure => simp [intOf]; omega
        · go_wp2_with fail
          refine (HH.out _).mono ?_
          rintro e w1 ⟨rfl, rfl⟩
          go_wp2
          go_roundw
          case rel => exact ⟨k + 1, q, by omega, by go_num, rfl, HS2.out, HB1.out⟩
          case measure => simp [intOf]; omega
      · have g1 : (kd == 1) = false := beq_eq_false_iff_ne.2 fun h => h1 (.inl h)
        have g3 : (kd == 3) = false := beq_eq_false_iff_ne.2 fun h => h1 (.inr h)
        rw [baseStep, if_neg h1] at HS
        clear h1
        go_wp2
        go_roundw
        case rel => exact ⟨k + 1, m, by omega, by go_num, rfl, HS.out, HB1.out⟩
        case measure => simp [intOf]; omega
    · have HE : Hid (m = T) := by show _ = _; rw [← HM.out, List.take_of_length_le (by omega), HT.out]
      go_wp2
      go_ret
      exact ⟨by rw [← HE.out]; rfl, HBEL.out⟩
set_option maxHeartbeats 2000000 in
set_option maxRecDepth 100000 in
theorem opOut_any (A : Option Addr) (c : Nat) (l : List CompV) (hl : l.length ≤ maxLen) (hf : Fine1 l) (w : World) (hc : CompsAt w A l) :
    Calls Try.prog 26 #[.slice A l.length c] w fun e w' => e = .returned (.int .i64 (rOut l)) ∧ Below w.heap.size w w' := by
  unfold maxLen at hl
  have HC := Lib.hid hc; clear hc
  have HF := Lib.hid hf; clear hf
  obtain ⟨T, HT⟩ : ∃ T, Hid (rOut l = T) := ⟨_, Lib.hid rfl⟩
  rw [HT.out]
  go_enter Try.func26, Try.ntmps26
  go_wp2
  go_loopw [3, 8] (fun n i wr => ∃ (k : Nat) (m : Int), k ≤ l.length ∧ i = .int .i64 k ∧ n = .int .i64 m ∧ rOut (l.take k) = m ∧ Below w.heap.size w wr) (fun _ i _ => l.length - (intOf i).toNat)
  case atStart => exact ⟨0, 0, Nat.zero_le _, rfl, rfl, rfl, Below.refl _ _⟩
  case round =>
    obtain ⟨k, m, hk, rfl, rfl, hm, hbel⟩ := hrel
    have HM := Lib.hid hm; clear hm
    have HBEL := Lib.hid hbel; clear hbel
    by_cases hlt : k < l.length
    · obtain ⟨b, off, rfl, _⟩ := HC.out.form (by omega)
      obtain ⟨x0, x1, x2⟩ := (HC.out.below HBEL.out).at_ hlt
      have HS := Lib.hid (show rOut (l.take (k + 1)) = outStep m l[k] by rw [List.take_succ_eq_append_getElem hlt, rOut_snoc, HM.out])
      have HFIT : Hid (0 ≤ m ∧ m ≤ 1099511627776) := by show _ ∧ _; rw [← HM.out]; exact rOut_fit _
      have HY := Lib.hid (HF.out l[k] (List.getElem_mem hlt))
      generalize l[k] = y at x0 x1 x2 HS HY
      obtain ⟨kd, n, tx⟩ := y
      simp only at x0 x1 x2
      have hnew : Below wr.heap.size wr (wr.alloc (Obj.cells #[Value.int .i64 kd, Value.int .i64 n, Value.string (bstr tx)] 29)) := (Below.refl _ _).alloc (Nat.le_refl _) _
      have HB1 : Hid (Below w.heap.size w (wr.alloc (Obj.cells #[Value.int .i64 kd, Value.int .i64 n, Value.string (bstr tx)] 29))) := HBEL.out.trans (hnew.mono HBEL.out.size)
      clear hnew
      by_cases h1 : kd = 1
      · subst h1
        rw [outStep, if_pos rfl] at HS
        have HH := Lib.hid (fun w => opSum_any m n HFIT.out.1 HFIT.out.2 w)
        obtain ⟨q, HQ⟩ : ∃ q, Hid (hld m n = q) := ⟨_, Lib.hid rfl⟩
        have HS2 : Hid (rOut (l.take (k + 1)) = q) := by show _ = _; rw [HS.out]; exact HQ.out
        rw [HQ.out] at HH
        go_wp2_with fail
        refine (HH.out _).mono ?_
        rintro e w1 ⟨rfl, rfl⟩
        go_wp2
        go_roundw
        case rel => exact ⟨k + 1, q, by omega, by go_num, rfl, HS2.out, HB1.out⟩
        case measure => simp [intOf]; omega
      · have g1 : (kd == 1) = false := beq_eq_false_iff_ne.2 h1
        by_cases h2 : kd = 2
        · subst h2
          rw [outStep, if_neg h1, if_pos rfl] at HS
          have HL := Lib.hid (fun w => runes_any tx HY.out.1.2.2.1 HY.out.2 w)
          have HH := Lib.hid (fun w => opSum_any m (loose tx : Int) HFIT.out.1 HFIT.out.2 w)
          obtain ⟨z, HZ⟩ : ∃ z, Hid (loose tx = z) := ⟨_, Lib.hid rfl⟩
          obtain ⟨q, HQ⟩ : ∃ q, Hid (hld m (loose tx : Int) = q) := ⟨_, Lib.hid rfl⟩
          have HS2 : Hid (rOut (l.take (k + 1)) = q) := by show _ = _; rw [HS.out]; exact HQ.out
          rw [HQ.out] at HH
          rw [HZ.out] at HL HH
          go_wp2_with fail
          refine (HL.out _).mono ?_
          rintro e w1 ⟨rfl, hb1⟩
          have HB2 : Hid (Below w.heap.size w w1) := HB1.out.trans (hb1.mono HB1.out.size)
          clear hb1
          go_wp2_with fail
          refine (HH.out _).mono ?_
          rintro e w2 ⟨rfl, rfl⟩
          go_wp2
          go_roundw
          case rel => exact ⟨k + 1, q, by omega, by go_num, rfl, HS2.out, HB2.out⟩
          case measure => simp [intOf]; omega
        · have g2 : (kd == 2) = false := beq_eq_false_iff_ne.2 h2
          rw [outStep, if_neg h1, if_neg h2] at HS
          clear h1 h2
          go_wp2
          go_roundw
          case rel => exact ⟨k + 1, m, by omega, by go_num, rfl, HS.out, HB1.out⟩
          case measure => simp [intOf]; omega
    · have HE : Hid (m = T) := by show _ = _; rw [← HM.out, List.take_of_length_le (by omega), HT.out]
      go_wp2
      go_ret
      exact ⟨by rw [← HE.out]; rfl, HBEL.out⟩
end Go.Proofs.Ytmedaimndaaiiaa
