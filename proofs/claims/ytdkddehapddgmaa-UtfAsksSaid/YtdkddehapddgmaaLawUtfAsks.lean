/- The walk of the law UtfAsks: whatever text and places it is called with, it answers true; what was there stays as it was. Condition: no text is longer than memory. -/
import Derived.Test.YtdkddehapddgmaaUtfStr
namespace Go.Proofs.Ytdkddehapddgmaa
open Go.RowKit Go.Deep

theorem utfAsks_long (l : List Nat) (h : 500 < l.length) (hl : l.length ≤ maxLen) (a b : Int) (w : World) :
    Calls Try.prog 3 #[.string (bstr l), .int .i64 a, .int .i64 b] w fun e w' => e = .returned (.bool true) ∧ Below w.heap.size w w' := by
  have hsz := bstr_size l
  simp only [maxLen] at hl
  go_enter Try.func3, Try.ntmps3
  go_wp2_with fail
  refine (utfAwake_any _).mono ?_
  rintro e w2 ⟨rfl, hb2⟩
  go_wp2
  go_ret
  exact ⟨rfl, hb2⟩

set_option maxHeartbeats 1000000 in
set_option maxRecDepth 100000 in
theorem utfAsks_no (l : List Nat) (hl : l.length ≤ 500) (hb : ∀ x ∈ l, x < 256) (h : ¬ ∃ vs, V l vs) (a b : Int) (w : World) :
    Calls Try.prog 3 #[.string (bstr l), .int .i64 a, .int .i64 b] w fun e w' => e = .returned (.bool true) ∧ Below w.heap.size w w' := by
  have hsz := bstr_size l
  have G1 := Lib.hid (fun w => refPoints_any l hb (by omega) w)
  have G2 := Lib.hid (fun w => utfCount_no h hb (by omega) w)
  have G3 := Lib.hid (fun w => utfPoints_no h hb (by omega) w)
  have G4 : Hid (∀ w, Calls Try.prog 11 #[.string (bstr l), .int .i64 a, .int .i64 b] w fun e w' => e = .returned (.tuple #[.string { data := #[] }, .int .i64 2]) ∧ Below w.heap.size w w') := fun w => utfSlice_no h hb (by omega) a b w
  have G5 := Lib.hid (fun w => utfOffset_no h hb (by omega) b w)
  have G6 := Lib.hid (fun w => utfValid_no h hb (by omega) w)
  have H := Lib.hid h; clear h hb
  go_enter Try.func3, Try.ntmps3
  go_wp2_with fail
  refine (G1.out _).mono ?_
  rintro e w1 ⟨⟨vs, hv, _⟩ | ⟨_, rfl⟩, hb1⟩
  · exact absurd ⟨vs, hv⟩ H.out
  have HB1 := Lib.hid hb1; clear hb1
  go_wp2_with fail
  refine (G2.out _).mono ?_
  rintro e w2 ⟨rfl, hb2⟩
  have HB2 := Lib.hid hb2; clear hb2
  go_wp2_with fail
  refine (G3.out _).mono ?_
  rintro e w3 ⟨rfl, hb3⟩
  have HB3 := Lib.hid hb3; clear hb3
  go_wp2_with fail
  refine (G4.out _).mono ?_
  rintro e w4 ⟨rfl, hb4⟩
  have HB4 := Lib.hid hb4; clear hb4
  go_wp2_with fail
  refine (G5.out _).mono ?_
  rintro e w5 ⟨rfl, hb5⟩
  have HB5 := Lib.hid hb5; clear hb5
  go_wp2_with fail
  refine (G6.out _).mono ?_
  rintro e w6 ⟨rfl, rfl⟩
  go_wp2_with fail
  refine (utfAwake_any _).mono ?_
  rintro e w6 ⟨rfl, hb6⟩
  go_wp2
  go_ret
  exact ⟨rfl, bstep (bstep (bstep (bstep (bstep HB1.out HB2.out) HB3.out) HB4.out) HB5.out) hb6⟩

set_option maxHeartbeats 2000000 in
set_option maxRecDepth 100000 in
theorem utfAsks_in (l vs : List Nat) (hl : l.length ≤ 500) (h : V l vs) (a b : Nat) (hab : a ≤ b) (hb : b ≤ vs.length) (w : World) :
    Calls Try.prog 3 #[.string (bstr l), .int .i64 (a : Int), .int .i64 (b : Int)] w fun e w' => e = .returned (.bool true) ∧ Below w.heap.size w w' := by
  have hsz := bstr_size l
  have G1 := Lib.hid (fun w => refPoints_any l h.lt (by omega) w)
  have G2 := Lib.hid (fun w => utfCount_yes h (by omega) w)
  have G3 := Lib.hid (fun w => utfPoints_yes h (by omega) w)
  have G4 := Lib.hid (fun w => utfSlice_yes h (by omega) a b hab hb w)
  have G5 := Lib.hid (fun w => utfOffset_yes h (by omega) b hb w)
  have G6 := Lib.hid (fun w => utfValid_yes h (by omega) w)
  have G7 := Lib.hid (fun w => refSlice_yes h (by omega) a b hab hb w)
  have G8 := Lib.hid (fun w => refOffset_yes h (by omega) b hb w)
  have hv500 : vs.length ≤ 500 := by have := h.length_le; omega
  have H := Lib.hid h; clear h
  obtain ⟨S, HS⟩ : ∃ S, Hid (bstr (E ((vs.take b).drop a)) = S) := ⟨_, rfl⟩
  rw [HS.out] at G4 G7
  obtain ⟨q, HQ⟩ : ∃ q, Hid ((E (vs.take b)).length = q) := ⟨_, rfl⟩
  rw [HQ.out] at G5 G8
  obtain ⟨Z, HZ⟩ : ∃ Z, Hid (nz vs = Z) := ⟨_, rfl⟩
  rw [← nz_length vs, HZ.out] at hb hv500 G2
  rw [HZ.out] at G3
  have hqq : ((q : Int) == (q : Int)) = true := beq_self_eq_true _
  have hss : (S.toList == S.toList) = true := beq_self_eq_true _
  go_enter Try.func3, Try.ntmps3
  go_wp2_with fail
  refine (G1.out _).mono ?_
  rintro e w1 ⟨⟨ws, hv, A1, c1, rfl, hat1⟩ | ⟨hn, _⟩, hb1⟩
  rotate_left
  · exact absurd ⟨vs, H.out⟩ hn
  obtain rfl := hv.uniq H.out
  rw [HZ.out] at hat1 ⊢
  have HAT1 := Lib.hid hat1; clear hat1 hv
  have HB1 := Lib.hid hb1; clear hb1
  go_wp2_with fail
  refine (G2.out _).mono ?_
  rintro e w2 ⟨rfl, hb2⟩
  have HB2 := Lib.hid hb2; clear hb2
  go_wp2_with fail
  refine (G3.out _).mono ?_
  rintro e w3 ⟨A3, c3, rfl, _, _, hat3, hb3⟩
  have HAT3 := Lib.hid hat3; clear hat3
  have HB3 := Lib.hid hb3; clear hb3
  go_wp2_with fail
  refine (G4.out _).mono ?_
  rintro e w4 ⟨rfl, hb4⟩
  have HB4 := Lib.hid hb4; clear hb4
  go_wp2_with fail
  refine (G5.out _).mono ?_
  rintro e w5 ⟨rfl, hb5⟩
  have HB5 := Lib.hid hb5; clear hb5
  go_wp2_with fail
  refine (G6.out _).mono ?_
  rintro e w6 ⟨rfl, rfl⟩
  have HI := Lib.hid (alikeInts_same c3 c1 (by simp only [maxLen]; omega) w5 (((HAT3.out.below HB4.out).below HB5.out)) ((((HAT1.out.below HB2.out).below HB3.out).below HB4.out).below HB5.out))
  go_wp2_with fail
  refine HI.out.mono ?_
  rintro e w6 ⟨rfl, hb6⟩
  have HB6 := Lib.hid hb6; clear hb6
  go_wp2_with fail
  refine (G7.out _).mono ?_
  rintro e w7 ⟨rfl, rfl⟩
  go_wp2_with fail
  refine (G8.out _).mono ?_
  rintro e w7 ⟨rfl, rfl⟩
  go_wp2_with fail
  refine (utfAwake_any _).mono ?_
  rintro e w7 ⟨rfl, hb7⟩
  go_wp2
  go_ret
  exact ⟨rfl, bstep (bstep (bstep (bstep (bstep (bstep HB1.out HB2.out) HB3.out) HB4.out) HB5.out) HB6.out) hb7⟩

set_option maxHeartbeats 4000000 in
set_option maxRecDepth 100000 in
theorem utfAsks_out (l vs : List Nat) (hl : l.length ≤ 500) (h : V l vs) (a b : Int) (hab : a < 0 ∨ b < a ∨ (vs.length : Int) < b) (w : World) :
    Calls Try.prog 3 #[.string (bstr l), .int .i64 a, .int .i64 b] w fun e w' => e = .returned (.bool true) ∧ Below w.heap.size w w' := by
  have hsz := bstr_size l
  have G1 := Lib.hid (fun w => refPoints_any l h.lt (by omega) w)
  have G2 := Lib.hid (fun w => utfCount_yes h (by omega) w)
  have G3 := Lib.hid (fun w => utfPoints_yes h (by omega) w)
  have G4 : Hid (∀ w, Calls Try.prog 11 #[.string (bstr l), .int .i64 a, .int .i64 b] w fun e w' => e = .returned (.tuple #[.string { data := #[] }, .int .i64 1]) ∧ Below w.heap.size w w') := fun w => utfSlice_arg h (by omega) a b hab w
  have G6 := Lib.hid (fun w => utfValid_yes h (by omega) w)
  have hv500 : vs.length ≤ 500 := by have := h.length_le; omega
  have H := Lib.hid h
  have hc : Hid ((a < 0) ∨ (¬ a < 0 ∧ b < a) ∨ (¬ a < 0 ∧ ¬ b < a ∧ (vs.length : Int) < b)) := by show _ ∨ _; omega
  clear hab
  obtain ⟨Z, HZ⟩ : ∃ Z, Hid (nz vs = Z) := ⟨_, rfl⟩
  by_cases hbo : b < 0 ∨ (vs.length : Int) < b
  · have G5 := Lib.hid (fun w => utfOffset_arg h (by omega) b hbo w)
    have hd : Hid (b < 0 ∨ (¬ b < 0 ∧ (vs.length : Int) < b)) := by show _ ∨ _; omega
    clear h hbo
    rw [← nz_length vs, HZ.out] at hv500 G2 hc hd
    rw [HZ.out] at G3
    rcases hc.out with hc1 | ⟨hc1, hc2⟩ | ⟨hc1, hc2, hc3⟩ <;> rcases hd.out with hd1 | ⟨hd1, hd2⟩
    all_goals first
      | (exfalso; omega)
      | (go_enter Try.func3, Try.ntmps3
         go_wp2_with fail
         refine (G1.out _).mono ?_
         rintro e w1 ⟨⟨ws, hv, A1, c1, rfl, hat1⟩ | ⟨hn, _⟩, hb1⟩
         rotate_left
         · exact absurd ⟨vs, H.out⟩ hn
         obtain rfl := hv.uniq H.out
         rw [HZ.out] at hat1 ⊢
         have HAT1 := Lib.hid hat1; clear hat1 hv
         have HB1 := Lib.hid hb1; clear hb1
         go_wp2_with fail
         refine (G2.out _).mono ?_
         rintro e w2 ⟨rfl, hb2⟩
         have HB2 := Lib.hid hb2; clear hb2
         go_wp2_with fail
         refine (G3.out _).mono ?_
         rintro e w3 ⟨A3, c3, rfl, _, _, hat3, hb3⟩
         have HAT3 := Lib.hid hat3; clear hat3
         have HB3 := Lib.hid hb3; clear hb3
         go_wp2_with fail
         refine (G4.out _).mono ?_
         rintro e w4 ⟨rfl, hb4⟩
         have HB4 := Lib.hid hb4; clear hb4
         go_wp2_with fail
         refine (G5.out _).mono ?_
         rintro e w5 ⟨rfl, hb5⟩
         have HB5 := Lib.hid hb5; clear hb5
         go_wp2_with fail
         refine (G6.out _).mono ?_
         rintro e w6 ⟨rfl, rfl⟩
         have HI := Lib.hid (alikeInts_same c3 c1 (by simp only [maxLen]; omega) w5 (((HAT3.out.below HB4.out).below HB5.out)) ((((HAT1.out.below HB2.out).below HB3.out).below HB4.out).below HB5.out))
         go_wp2_with fail
         refine HI.out.mono ?_
         rintro e w6 ⟨rfl, hb6⟩
         have HB6 := Lib.hid hb6; clear hb6
         go_wp2_with fail
         refine (utfAwake_any _).mono ?_
         rintro e w7 ⟨rfl, hb7⟩
         go_wp2
         go_ret
         exact ⟨rfl, bstep (bstep (bstep (bstep (bstep (bstep HB1.out HB2.out) HB3.out) HB4.out) HB5.out) HB6.out) hb7⟩)
  · obtain ⟨n, rfl⟩ := Int.eq_ofNat_of_zero_le (show 0 ≤ b by omega)
    have hn : n ≤ vs.length := by omega
    have G5 := Lib.hid (fun w => utfOffset_yes h (by omega) n hn w)
    have G8 := Lib.hid (fun w => refOffset_yes h (by omega) n hn w)
    obtain ⟨q, HQ⟩ : ∃ q, Hid ((E (vs.take n)).length = q) := ⟨_, rfl⟩
    rw [HQ.out] at G5 G8
    have hqq : ((q : Int) == (q : Int)) = true := beq_self_eq_true _
    clear h hbo
    rw [← nz_length vs, HZ.out] at hv500 G2 hc hn
    rw [HZ.out] at G3
    rcases hc.out with hc1 | ⟨hc1, hc2⟩ | ⟨hc1, hc2, hc3⟩
    all_goals first
      | (exfalso; omega)
      | (go_enter Try.func3, Try.ntmps3
         go_wp2_with fail
         refine (G1.out _).mono ?_
         rintro e w1 ⟨⟨ws, hv, A1, c1, rfl, hat1⟩ | ⟨hn, _⟩, hb1⟩
         rotate_left
         · exact absurd ⟨vs, H.out⟩ hn
         obtain rfl := hv.uniq H.out
         rw [HZ.out] at hat1 ⊢
         have HAT1 := Lib.hid hat1; clear hat1 hv
         have HB1 := Lib.hid hb1; clear hb1
         go_wp2_with fail
         refine (G2.out _).mono ?_
         rintro e w2 ⟨rfl, hb2⟩
         have HB2 := Lib.hid hb2; clear hb2
         go_wp2_with fail
         refine (G3.out _).mono ?_
         rintro e w3 ⟨A3, c3, rfl, _, _, hat3, hb3⟩
         have HAT3 := Lib.hid hat3; clear hat3
         have HB3 := Lib.hid hb3; clear hb3
         go_wp2_with fail
         refine (G4.out _).mono ?_
         rintro e w4 ⟨rfl, hb4⟩
         have HB4 := Lib.hid hb4; clear hb4
         go_wp2_with fail
         refine (G5.out _).mono ?_
         rintro e w5 ⟨rfl, hb5⟩
         have HB5 := Lib.hid hb5; clear hb5
         go_wp2_with fail
         refine (G6.out _).mono ?_
         rintro e w6 ⟨rfl, rfl⟩
         have HI := Lib.hid (alikeInts_same c3 c1 (by simp only [maxLen]; omega) w5 (((HAT3.out.below HB4.out).below HB5.out)) ((((HAT1.out.below HB2.out).below HB3.out).below HB4.out).below HB5.out))
         go_wp2_with fail
         refine HI.out.mono ?_
         rintro e w6 ⟨rfl, hb6⟩
         have HB6 := Lib.hid hb6; clear hb6
         go_wp2_with fail
         refine (G8.out _).mono ?_
         rintro e w7 ⟨rfl, rfl⟩
         go_wp2_with fail
         refine (utfAwake_any _).mono ?_
         rintro e w7 ⟨rfl, hb7⟩
         go_wp2
         go_ret
         exact ⟨rfl, bstep (bstep (bstep (bstep (bstep (bstep HB1.out HB2.out) HB3.out) HB4.out) HB5.out) HB6.out) hb7⟩)

theorem utfAsks_any (l : List Nat) (hb : ∀ x ∈ l, x < 256) (hl : l.length ≤ maxLen) (a b : Int) (w : World) :
    Calls Try.prog 3 #[.string (bstr l), .int .i64 a, .int .i64 b] w fun e w' => e = .returned (.bool true) ∧ Below w.heap.size w w' := by
  by_cases h500 : 500 < l.length
  · exact utfAsks_long l h500 hl a b w
  by_cases hv : ∃ vs, V l vs
  · obtain ⟨vs, hv⟩ := hv
    by_cases hab : a < 0 ∨ b < a ∨ (vs.length : Int) < b
    · exact utfAsks_out l vs (by omega) hv a b hab w
    · obtain ⟨a, rfl⟩ := Int.eq_ofNat_of_zero_le (show 0 ≤ a by omega)
      obtain ⟨b, rfl⟩ := Int.eq_ofNat_of_zero_le (show 0 ≤ b by omega)
      exact utfAsks_in l vs (by omega) hv a b (by omega) (by omega) w
  · exact utfAsks_no l (by omega) hb hv a b w
end Go.Proofs.Ytdkddehapddgmaa
