/- The contract of the statements' own awake: it answers true; what was there stays as it was. No condition. -/
import Derived.Test.YtdkddehapddgmaaRefText
namespace Go.Proofs.Ytdkddehapddgmaa
open Go.RowKit Go.Deep

theorem no_text {l : List Nat} (h : l ≠ []) (hs : st l = none) : ¬ ∃ vs, V l vs := by
  have := none_behind (vs := []) (r := l) (by simp) h hs
  rwa [E_nil, List.nil_append] at this
theorem V_a : V [97, 195, 169] [97, 233] := by
  refine ⟨?_, ?_⟩
  · intro v hv; simp at hv; rcases hv with rfl | rfl <;> (unfold May; omega)
  · rw [E_cons, E_cons, E_nil, enc_def, enc_def]; rfl
theorem V_b : V [97, 98, 99] [97, 98, 99] := by
  refine ⟨?_, ?_⟩
  · intro v hv; simp at hv; rcases hv with rfl | rfl | rfl <;> (unfold May; omega)
  · rw [E_cons, E_cons, E_cons, E_nil, enc_def, enc_def, enc_def]; rfl
theorem N_a : ¬ ∃ vs, V [255] vs := no_text (by simp) (by rw [st_cons]; rfl)
theorem N_b : ¬ ∃ vs, V [0] vs := no_text (by simp) (by rw [st_cons, if_pos (by omega), fur_zero, if_pos (.inr (by unfold May; omega))])

set_option maxRecDepth 100000 in
theorem utfAwake_any (w : World) : Calls Try.prog 7 #[] w fun e w' => e = .returned (.bool true) ∧ Below w.heap.size w w' := by
  have G1 : Hid (∀ w, Calls Try.prog 9 #[.string { data := #[97, 195, 169] }] w fun e w' => e = .returned (.tuple #[.int .i64 2, .int .i64 0]) ∧ Below w.heap.size w w') := fun w => utfCount_yes V_a (by simp) w
  have G2 : Hid (∀ w, Calls Try.prog 9 #[.string { data := #[255] }] w fun e w' => e = .returned (.tuple #[.int .i64 0, .int .i64 2]) ∧ Below w.heap.size w w') := fun w => utfCount_no N_a (by simp) (by simp) w
  have G3 : Hid (∀ (w : World) (g : Nat) (t : TypeId), g = w.heap.size → Calls Try.prog 17 #[.slice (some ⟨g, 0, none⟩) 1 1] (w.alloc (.cells #[.int .i64 55296] t)) fun e w' => e = .returned (.tuple #[.string (bstr []), .int .i64 2]) ∧ Below w.heap.size w w') := by
    intro w g t hg
    refine (utfText_any (A := some ⟨g, 0, none⟩) (l := [55296]) 1 (by simp) _ (IntsAt.lit (fun j x hj => ?_) hg)).mono ?_
    · match j, hj with
      | 0, hj => simp at hj; subst hj; rfl
      | (j + 1), hj => simp at hj
    · rintro e w' ⟨h, hb⟩
      refine ⟨?_, ((Below.refl _ w).alloc (Nat.le_refl _) _).trans (hb.mono (by simp))⟩
      rcases h with ⟨vs, hv, _⟩ | ⟨_, h⟩
      · exact absurd ⟨vs, hv⟩ (VZ.not (k := 0) (by simp) (by simp))
      · exact h
  have G4 : Hid (∀ w, Calls Try.prog 11 #[.string { data := #[97, 98, 99] }, .int .i64 1, .int .i64 2] w fun e w' => e = .returned (.tuple #[.string { data := #[98] }, .int .i64 0]) ∧ Below w.heap.size w w') := by
    intro w
    have h := utfSlice_yes V_b (by simp) 1 2 (by omega) (by simp) w
    rw [show E (List.drop 1 (List.take 2 [97, 98, 99])) = [98] by show E [98] = [98]; rw [E_cons, E_nil, enc_def]; rfl] at h
    exact h
  have G5 : Hid (∀ w, Calls Try.prog 13 #[.string { data := #[0] }] w fun e w' => e = .returned (.bool false) ∧ w = w') := fun w => utfValid_no N_b (by simp) (by simp) w
  have G6 : Hid (∀ w, Calls Try.prog 13 #[.string { data := #[] }] w fun e w' => e = .returned (.bool true) ∧ w = w') := fun w => utfValid_yes V.nil (by simp) w
  go_enter Try.func7, Try.ntmps7
  go_wp2_with fail
  refine (G1.out _).mono ?_
  rintro e w1 ⟨rfl, hb1⟩
  have HB1 := Lib.hid hb1; clear hb1
  go_wp2_with fail
  refine (G2.out _).mono ?_
  rintro e w2 ⟨rfl, hb2⟩
  have HB2 := Lib.hid hb2; clear hb2
  go_wp2_with fail
  refine (G3.out _ _ _ rfl).mono ?_
  rintro e w3 ⟨rfl, hb3⟩
  have HB3 := Lib.hid hb3; clear hb3
  go_wp2_with fail
  refine (G4.out _).mono ?_
  rintro e w4 ⟨rfl, hb4⟩
  have HB4 := Lib.hid hb4; clear hb4
  go_wp2_with fail
  refine (G5.out _).mono ?_
  rintro e w5 ⟨rfl, rfl⟩
  go_wp2_with fail
  refine (G6.out _).mono ?_
  rintro e w5 ⟨rfl, rfl⟩
  go_wp2
  go_ret
  exact ⟨rfl, bstep (bstep (bstep HB1.out HB2.out) HB3.out) HB4.out⟩
end Go.Proofs.Ytdkddehapddgmaa
