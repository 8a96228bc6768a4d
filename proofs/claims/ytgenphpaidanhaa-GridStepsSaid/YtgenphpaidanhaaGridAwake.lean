/- The contract of the statements' own awake: it answers true; what was there stays as it was. No condition. -/
import Derived.Test.YtgenphpaidanhaaGridStep
namespace Go.Proofs.Ytgenphpaidanhaa
open Go.RowKit Go.Deep Ieee
attribute [-go_sem] binOp_float_cmp_eql binOp_float_cmp_neq binOp_float_cmp_lss binOp_float_cmp_leq binOp_float_cmp_gtr binOp_float_cmp_geq run_eql_complex run_neq_complex

theorem aw12_V : V [97, 98, 10, 99] [97, 98, 10, 99] := by
  refine ⟨?_, ?_⟩
  · intro v hv; simp at hv; rcases hv with rfl | rfl | rfl | rfl <;> (unfold May; omega)
  · rw [E_cons, E_cons, E_cons, E_cons, E_nil, enc_def, enc_def, enc_def, enc_def]; rfl
theorem aw12_W : V [97, 98] [97, 98] := by
  refine ⟨?_, ?_⟩
  · intro v hv; simp at hv; rcases hv with rfl | rfl <;> (unfold May; omega)
  · rw [E_cons, E_cons, E_nil, enc_def, enc_def]; rfl
theorem aw12_N : ¬ ∃ vs, V [255] vs := no_text (by simp) (by rw [st_cons]; rfl)
theorem aw12_1 : lin [97, 98, 10, 99] 1 = 0 ∧ col [97, 98, 10, 99] 1 = 1 := by rw [lin_no (by simp), col_no (by simp), lin_zero, col_zero]; exact ⟨rfl, rfl⟩
theorem aw12_2 : lin [97, 98, 10, 99] 2 = 0 ∧ col [97, 98, 10, 99] 2 = 2 := by rw [lin_no (by simp), col_no (by simp), aw12_1.1, aw12_1.2]; exact ⟨rfl, rfl⟩
theorem aw12_3 : lin [97, 98, 10, 99] 3 = 1 ∧ col [97, 98, 10, 99] 3 = 0 := by rw [lin_yes (by simp), col_yes (by simp), aw12_2.1]; exact ⟨rfl, rfl⟩
theorem aw12_4 : lin [97, 98, 10, 99] 4 = 1 ∧ col [97, 98, 10, 99] 4 = 1 := by rw [lin_no (by simp), col_no (by simp), aw12_3.1, aw12_3.2]; exact ⟨rfl, rfl⟩
theorem aw12_lst : lst [97, 98, 10, 99] = 1 := by rw [lst_count]; rfl
theorem aw12_w0 : wdt [97, 98, 10, 99] 0 = 2 := by
  have := at_end [97, 98, 10, 99] (q := 2) rfl
  rw [aw12_2.1, aw12_2.2] at this
  exact this.symm
theorem aw12_w1 : wdt [97, 98, 10, 99] 1 = 1 := by
  obtain ⟨e, h1, h2, h3, h4⟩ := line_end [97, 98, 10, 99] (k := 1) (by rw [aw12_lst]; exact Nat.le_refl _)
  have h5 := h4 4 (Nat.le_refl _) aw12_4.1
  have h1' : e ≤ 4 := h1
  obtain rfl : e = 4 := by omega
  rw [← h3, aw12_4.2]
theorem FV.c5 : FV 4617315517961601024 80 := ⟨false, 5629499534213120, -50, rfl, fun h => by omega, fun _ => ⟨by omega, by omega, rfl, rfl, by omega⟩⟩
set_option maxHeartbeats 4000000 in
set_option maxRecDepth 100000 in
theorem gridAwake_any (w : World) : Calls Try.prog 8 #[] w fun e w' => e = .returned (.bool true) ∧ Below w.heap.size w w' := by
  have G1 : Hid (∀ w, Calls Try.prog 11 #[.string { data := #[97, 98, 10, 99] }, .int .i64 3] w fun e w' => (∃ a b, e = .returned (.tuple #[.complex .f64 a b, .int .i64 0]) ∧ PtV a b 0 1) ∧ Below w.heap.size w w') := by
    intro w
    refine (at_in aw12_V (by simp) 3 w).mono ?_
    rintro e w' ⟨⟨q, a, b, hq, h3, hp, rfl⟩ | ⟨h, _⟩, hb⟩
    · obtain rfl : q = 3 := by omega
      rw [aw12_3.1, aw12_3.2] at hp
      exact ⟨⟨a, b, rfl, hp⟩, hb⟩
    · exact absurd rfl (h 3 (by simp))
  have G2 : Hid (∀ w, Calls Try.prog 9 #[.string { data := #[97, 98, 10, 99] }] w fun e w' => e = .returned (.tuple #[.int .i64 2, .int .i64 0]) ∧ w' = w) := by
    intro w
    have := lines_yes aw12_V (by simp) w
    rw [aw12_lst] at this
    exact this
  have G3 : Hid (∀ w, Calls Try.prog 10 #[.string { data := #[97, 98, 10, 99] }, .int .i64 0] w fun e w' => e = .returned (.tuple #[.int .i64 2, .int .i64 0]) ∧ Below w.heap.size w w') := by
    intro w
    have := width_in aw12_V (by simp) ((0 : Nat) : Int) w
    rw [wOut_yes (Nat.zero_le _), wErr_yes (Nat.zero_le _), aw12_w0] at this
    exact this
  have G4 : Hid (∀ w, Calls Try.prog 13 #[.string { data := #[97, 98] }, .complex .f64 0 4607182418800017408] w fun e w' => e = .returned (.tuple #[.int .i64 0, .int .i64 1]) ∧ Below w.heap.size w w') := by
    intro w
    refine (place_in aw12_W (by simp) FV.c0 FV.c1 w).mono ?_
    rintro e w' ⟨⟨q, hq, ⟨_, h⟩, rfl⟩ | ⟨_, rfl⟩, hb⟩
    · have h1 := lin_lst [97, 98] hq
      rw [lst_count, show [97, 98].count 10 = 0 from rfl] at h1
      omega
    · exact ⟨rfl, hb⟩
  have G5 : Hid (∀ w, Calls Try.prog 14 #[.string { data := #[97, 98, 10, 99] }, .complex .f64 4611686018427387904 0, .complex .f64 0 4617315517961601024] w fun e w' => (∃ r s, e = .returned (.tuple #[.complex .f64 r s, .int .i64 0]) ∧ PtV r s 1 1) ∧ Below w.heap.size w w') := by
    intro w
    exact step_yes aw12_V (by simp) (q := 2) (by simp) (ca := 4611686018427387904) (cb := 0) (by rw [aw12_2.1, aw12_2.2]; exact ⟨FV.c2, FV.c0⟩) (da := 0) (db := 4617315517961601024) (a := 0) (b := 5) ⟨FV.c0, FV.c5⟩ (by omega) (by omega) (by omega) (by omega)
      (L := 1) (by rw [aw12_2.1, aw12_lst]; rfl) (C := 1) (by rw [aw12_2.2, aw12_w1]; rfl) w
  have G6 : Hid (∀ w, Calls Try.prog 9 #[.string { data := #[255] }] w fun e w' => e = .returned (.tuple #[.int .i64 0, .int .i64 2]) ∧ w' = w) := fun w => lines_bad aw12_N (by simp) (by simp) w
  go_enter Try.func8, Try.ntmps8
  go_wp2_with fail
  refine (G1.out _).mono ?_
  rintro e w1 ⟨⟨a, b, rfl, hp⟩, hb⟩
  have HB1 := Lib.hid hb
  have R1 := ceq_fv hp.1 hp.2 FV.c0 FV.c1 (r := true) (by simp)
  clear hb hp
  go_wp2_with fail
  refine (G2.out _).mono ?_
  rintro e w2 ⟨rfl, rfl⟩
  go_wp2_with fail
  refine (G3.out _).mono ?_
  rintro e w2 ⟨rfl, hb⟩
  have HB2 := Lib.hid (HB1.out.trans (hb.mono HB1.out.size))
  clear hb
  go_wp2_with fail
  refine (G4.out _).mono ?_
  rintro e w3 ⟨rfl, hb⟩
  have HB3 := Lib.hid (HB2.out.trans (hb.mono HB2.out.size))
  clear hb
  go_wp2_with fail
  refine (G5.out _).mono ?_
  rintro e w4 ⟨⟨r, s, rfl, hp⟩, hb⟩
  have HB4 := Lib.hid (HB3.out.trans (hb.mono HB3.out.size))
  have R2 := ceq_fv hp.1 hp.2 FV.c1 FV.c1 (r := true) (by simp)
  clear hb hp
  go_wp2_with fail
  refine (G6.out _).mono ?_
  rintro e w5 ⟨rfl, rfl⟩
  go_wp2
  go_ret
  exact ⟨rfl, HB4.out⟩
end Go.Proofs.Ytgenphpaidanhaa
