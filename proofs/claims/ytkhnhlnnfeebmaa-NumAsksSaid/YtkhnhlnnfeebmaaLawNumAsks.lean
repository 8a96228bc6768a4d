/- The walk of the law NumAsks: whatever int and bytes it is called with, it answers true; what was there stays as it was. Condition: no slice is longer than memory. -/
import Derived.Test.YtkhnhlnnfeebmaaLawNumAwake
import Derived.Test.YtkhnhlnnfeebmaaBytes
import Derived.Test.YtkhnhlnnfeebmaaMono
namespace Go.Proofs.Ytkhnhlnnfeebmaa
open Go.RowKit Go.Deep

theorem numAsks_long (n : Int) (A : Option Addr) (k c : Nat) (hk : 100 < k) (w : World) :
    Calls Try.prog 3 #[.int .i64 n, .slice A k c] w fun e w' => e = .returned (.bool true) ∧ Below w.heap.size w w' := by
  go_enter Try.func3, Try.ntmps3
  go_wp2_with (go_at_call 6; refine (numAwake_any _).mono ?_; rintro e w' ⟨rfl, hb⟩)
  go_ret
  exact ⟨rfl, hb⟩

/-- What both readers answer of the same bytes. -/
theorem gets_alike (l : List Nat) (hb : ∀ x ∈ l, x < 256) : ∃ x y e : Nat, ng 0 0 l = (x, y, e) ∧ rg 0 0 l = (x, y) ∧ ((e = 0 ∧ 0 < y) ∨ (e = 2 ∧ x = 0 ∧ y = 0)) := by
  obtain ⟨h1, h2⟩ := ng_rg l hb 0 0 (by omega) (.inl ⟨rfl, rfl⟩)
  refine ⟨_, _, _, rfl, h1, ?_⟩
  rcases h2 with h2 | h2
  · exact .inl h2
  · rw [h2]; exact .inr ⟨rfl, rfl, rfl⟩

set_option maxRecDepth 100000 in
theorem numAsks_yes (n : Nat) (h1 : n ≤ 1099511627776) (A : Option Addr) (l : List Nat) (c : Nat) (hl : ¬ 100 < l.length) (hb : ∀ x ∈ l, x < 256) (w : World) (hA : BytesAt w A l) :
    Calls Try.prog 3 #[.int .i64 n, .slice A l.length c] w fun e w' => e = .returned (.bool true) ∧ Below w.heap.size w w' := by
  obtain ⟨x, y, e, hn, hr, hc⟩ := gets_alike l hb
  have G7 := Lib.hid (fun w (h : BytesAt w A l) => numGet_at c (by simp only [maxLen]; omega) hb w h)
  have G8 := Lib.hid (fun w (h : BytesAt w A l) => refGet_at c (by simp only [maxLen]; omega) hb w h)
  rw [hn] at G7
  rw [hr] at G8
  clear hn hr
  have HA := Lib.hid hA; clear hA
  have HB := Lib.hid hb; clear hb
  have H1 := Lib.hid h1
  obtain ⟨L, HL⟩ : ∃ L, Hid (nput n = L) := ⟨_, rfl⟩
  have HS : Hid (nsz n = L.length) := by show nsz n = L.length; rw [← HL.out, nput_length]
  rcases hc with ⟨rfl, hy⟩ | ⟨rfl, rfl, rfl⟩
  all_goals
    go_enter Try.func3, Try.ntmps3
    go_wp2_with (first
      | (go_at_call 7; refine (G7.out _ HA.out).mono ?_; rintro e w' ⟨rfl, rfl⟩)
      | (go_at_call 8; refine (G8.out _ HA.out).mono ?_; rintro e w' ⟨rfl, rfl⟩))
    refine wp_region_lit [(0, true), (3, true), (1, false), (2, true), (4, false), (5, true), (6, true), (7, true), (8, true), (10, true), (9, false), (11, false), (12, true), (13, true), (14, true), (15, true), (16, true), (18, true), (17, false), (19, false), (20, true), (21, true), (22, true), (23, true), (24, true), (25, true), (26, true), (27, true), (28, true), (29, true), (30, true), (31, true), (32, true), (33, true), (34, true), (35, true), (36, true), (37, true), (38, true), (39, true), (40, true), (41, true), (42, true), (43, true), (44, true), (45, true), (46, true), (47, true), (48, false), (49, true), (50, true)] (by kernel_rfl) (by kernel_rfl) (fun _ _ d _ _ h => by cases d <;> exact h) ?_
    simp only [picked, List.map_cons, List.map_nil, List.getElem?_cons_succ, List.getElem?_cons_zero, Option.getD_some]
    repeat (first | (refine wpL_quiet (by rfl) (fun K hK => ?_); go_big_quiet_op; refine hK _ ?_; clear hK K) | (refine wpL_skip (by rfl) ?_; simp only [Act.put, List.setIfInBounds_toArray, List.set_cons_zero, List.set_cons_succ]))
    refine wpL_call (by rfl) (fun K hK => ?_)
    go_simp
    refine (numPut_yes n H1.out _).mono ?_
    rintro e w1 ⟨v, rfl, hv⟩
    rw [HL.out] at hv
    have HB1 := Lib.hid hv.below
    obtain ⟨A1, c1, rfl, hat1⟩ := hv.at_
    have HAT1 := Lib.hid hat1
    clear hv hat1
    have hcv1 := fun e : Ext w1 => (HAT1.out.below e.property).conv c1 9 Try.underlying9
    refine hK _ _ HB1.out ?_
    clear hK K
    repeat (first | (refine wpL_quiet (by rfl) (fun K hK => ?_); go_big_quiet_op; refine hK _ ?_; clear hK K) | (refine wpL_skip (by rfl) ?_; simp only [Act.put, List.setIfInBounds_toArray, List.set_cons_zero, List.set_cons_succ]))
    refine wpL_call (by rfl) (fun K hK => ?_)
    go_simp
    refine (refPut_yes n H1.out _).mono ?_
    rintro e w2 ⟨v, rfl, hv⟩
    rw [HL.out] at hv
    have HB2 := Lib.hid hv.below
    obtain ⟨A2, c2, rfl, hat2⟩ := hv.at_
    have HAT2 := Lib.hid hat2
    clear hv hat2 hcv1
    have hcv2 := fun e : Ext w2 => (HAT2.out.below e.property).conv c2 9 Try.underlying9
    refine hK _ _ HB2.out ?_
    clear hK K
    repeat (first | (refine wpL_quiet (by rfl) (fun K hK => ?_); go_big_quiet_op; refine hK _ ?_; clear hK K) | (refine wpL_skip (by rfl) ?_; simp only [Act.put, List.setIfInBounds_toArray, List.set_cons_zero, List.set_cons_succ]))
    refine wpL_call (by rfl) (fun K hK => ?_)
    go_simp
    refine (numSize_yes n H1.out _).mono ?_
    rintro e w3 ⟨rfl, rfl⟩
    rw [HS.out]
    refine hK _ _ (Below.refl _ _) ?_
    clear hK K
    repeat (first | (refine wpL_quiet (by rfl) (fun K hK => ?_); go_big_quiet_op; refine hK _ ?_; clear hK K) | (refine wpL_skip (by rfl) ?_; simp only [Act.put, List.setIfInBounds_toArray, List.set_cons_zero, List.set_cons_succ]))
    refine wpL_call (by rfl) (fun K hK => ?_)
    go_simp
    refine (refPut_yes n H1.out _).mono ?_
    rintro e w3 ⟨v, rfl, hv⟩
    rw [HL.out] at hv
    have HB3 := Lib.hid hv.below
    obtain ⟨A3, c3, rfl, _⟩ := hv.at_
    clear hv hcv2
    refine hK _ _ HB3.out ?_
    clear hK K
    repeat (first | (refine wpL_quiet (by rfl) (fun K hK => ?_); go_big_quiet_op; refine hK _ ?_; clear hK K) | (refine wpL_skip (by rfl) ?_; simp only [Act.put, List.setIfInBounds_toArray, List.set_cons_zero, List.set_cons_succ]))
    refine wpL_call (by rfl) (fun K hK => ?_)
    go_simp
    refine (numFits_yes _ (by omega) (by have := H1.out; omega) _).mono ?_
    rintro e w4 ⟨rfl, rfl⟩
    refine hK _ _ (Below.refl _ _) ?_
    clear hK K
    repeat (first | (refine wpL_quiet (by rfl) (fun K hK => ?_); go_big_quiet_op; refine hK _ ?_; clear hK K) | (refine wpL_skip (by rfl) ?_; simp only [Act.put, List.setIfInBounds_toArray, List.set_cons_zero, List.set_cons_succ]))
    refine wpL_call (by rfl) (fun K hK => ?_)
    go_simp
    refine (refFits_yes _ (by omega) (by have := H1.out; omega) _).mono ?_
    rintro e w4 ⟨rfl, rfl⟩
    refine hK _ _ (Below.refl _ _) ?_
    clear hK K
    repeat (first | (refine wpL_quiet (by rfl) (fun K hK => ?_); go_big_quiet_op; refine hK _ ?_; clear hK K) | (refine wpL_skip (by rfl) ?_; simp only [Act.put, List.setIfInBounds_toArray, List.set_cons_zero, List.set_cons_succ]))
    refine wpL_call (by rfl) (fun K hK => ?_)
    go_simp
    refine (numAwake_any _).mono ?_
    rintro e w4 ⟨rfl, hb4⟩
    have HB4 := Lib.hid hb4
    refine hK _ _ hb4 ?_
    clear hK K hb4
    repeat (first | (refine wpL_quiet (by rfl) (fun K hK => ?_); go_big_quiet_op; refine hK _ ?_; clear hK K) | (refine wpL_skip (by rfl) ?_; simp only [Act.put, List.setIfInBounds_toArray, List.set_cons_zero, List.set_cons_succ]))
    refine wpL_nil ?_
    go_wp2
    go_ret
    exact ⟨rfl, (((((Below.refl _ w).drew).trans HB1.out).trans (HB2.out.mono HB1.out.size)).trans (HB3.out.mono (Nat.le_trans HB1.out.size HB2.out.size))).trans (HB4.out.mono (Nat.le_trans (Nat.le_trans HB1.out.size HB2.out.size) HB3.out.size))⟩

set_option maxRecDepth 100000 in
theorem numAsks_no (n : Int) (hn : n < 0 ∨ 1099511627776 < n) (A : Option Addr) (l : List Nat) (c : Nat) (hl : ¬ 100 < l.length) (hb : ∀ x ∈ l, x < 256) (w : World) (hA : BytesAt w A l) :
    Calls Try.prog 3 #[.int .i64 n, .slice A l.length c] w fun e w' => e = .returned (.bool true) ∧ Below w.heap.size w w' := by
  obtain ⟨x, y, e, hn', hr, hc⟩ := gets_alike l hb
  have G7 := Lib.hid (fun w (h : BytesAt w A l) => numGet_at c (by simp only [maxLen]; omega) hb w h)
  have G8 := Lib.hid (fun w (h : BytesAt w A l) => refGet_at c (by simp only [maxLen]; omega) hb w h)
  rw [hn'] at G7
  rw [hr] at G8
  clear hn' hr
  have HA := Lib.hid hA; clear hA
  have HB := Lib.hid hb; clear hb
  have HN := Lib.hid hn; clear hn
  have hcv := fun w : World => run_convert_bytes_nil w 22 5 Try.underlying22 Try.underlying5 0 0 9 Try.underlying9
  rcases hc with ⟨rfl, hy⟩ | ⟨rfl, rfl, rfl⟩
  all_goals
    go_enter Try.func3, Try.ntmps3
    go_wp2_with (first
      | (go_at_call 7; refine (G7.out _ HA.out).mono ?_; rintro e w' ⟨rfl, rfl⟩)
      | (go_at_call 8; refine (G8.out _ HA.out).mono ?_; rintro e w' ⟨rfl, rfl⟩))
    refine wp_region_lit [(0, true), (3, true), (1, false), (2, true), (4, false), (5, true), (6, true), (7, true), (8, true), (10, true), (9, false), (11, false), (12, true), (13, true), (14, true), (15, true), (16, true), (18, true), (17, false), (19, false), (20, true), (21, true), (22, true), (23, true), (24, true), (25, true), (26, true), (27, true), (28, true), (29, true), (30, true), (31, true), (32, true), (33, true), (34, true), (35, true), (36, true), (37, true), (38, true), (39, true), (40, true), (41, true), (42, true), (43, true), (44, true), (45, true), (46, true), (47, true), (48, false), (49, true), (50, true)] (by kernel_rfl) (by kernel_rfl) (fun _ _ d _ _ h => by cases d <;> exact h) ?_
    simp only [picked, List.map_cons, List.map_nil, List.getElem?_cons_succ, List.getElem?_cons_zero, Option.getD_some]
    repeat (first | (refine wpL_quiet (by rfl) (fun K hK => ?_); go_big_quiet_op; refine hK _ ?_; clear hK K) | (refine wpL_skip (by rfl) ?_; simp only [Act.put, List.setIfInBounds_toArray, List.set_cons_zero, List.set_cons_succ]))
    refine wpL_call (by rfl) (fun K hK => ?_)
    go_simp
    refine (numPut_no _ HN.out _).mono ?_
    rintro e w' ⟨rfl, rfl⟩
    refine hK _ _ (Below.refl _ _) ?_
    clear hK K
    repeat (first | (refine wpL_quiet (by rfl) (fun K hK => ?_); go_big_quiet_op; refine hK _ ?_; clear hK K) | (refine wpL_skip (by rfl) ?_; simp only [Act.put, List.setIfInBounds_toArray, List.set_cons_zero, List.set_cons_succ]))
    refine wpL_call (by rfl) (fun K hK => ?_)
    go_simp
    refine (refPut_no _ HN.out _).mono ?_
    rintro e w' ⟨rfl, rfl⟩
    refine hK _ _ (Below.refl _ _) ?_
    clear hK K
    repeat (first | (refine wpL_quiet (by rfl) (fun K hK => ?_); go_big_quiet_op; refine hK _ ?_; clear hK K) | (refine wpL_skip (by rfl) ?_; simp only [Act.put, List.setIfInBounds_toArray, List.set_cons_zero, List.set_cons_succ]))
    refine wpL_call (by rfl) (fun K hK => ?_)
    go_simp
    refine (numSize_no _ HN.out _).mono ?_
    rintro e w' ⟨rfl, rfl⟩
    refine hK _ _ (Below.refl _ _) ?_
    clear hK K
    repeat (first | (refine wpL_quiet (by rfl) (fun K hK => ?_); go_big_quiet_op; refine hK _ ?_; clear hK K) | (refine wpL_skip (by rfl) ?_; simp only [Act.put, List.setIfInBounds_toArray, List.set_cons_zero, List.set_cons_succ]))
    refine wpL_call (by rfl) (fun K hK => ?_)
    go_simp
    refine (refPut_no _ HN.out _).mono ?_
    rintro e w' ⟨rfl, rfl⟩
    refine hK _ _ (Below.refl _ _) ?_
    clear hK K
    repeat (first | (refine wpL_quiet (by rfl) (fun K hK => ?_); go_big_quiet_op; refine hK _ ?_; clear hK K) | (refine wpL_skip (by rfl) ?_; simp only [Act.put, List.setIfInBounds_toArray, List.set_cons_zero, List.set_cons_succ]))
    refine wpL_call (by rfl) (fun K hK => ?_)
    go_simp
    refine (numFits_no _ HN.out _).mono ?_
    rintro e w' ⟨rfl, rfl⟩
    refine hK _ _ (Below.refl _ _) ?_
    clear hK K
    repeat (first | (refine wpL_quiet (by rfl) (fun K hK => ?_); go_big_quiet_op; refine hK _ ?_; clear hK K) | (refine wpL_skip (by rfl) ?_; simp only [Act.put, List.setIfInBounds_toArray, List.set_cons_zero, List.set_cons_succ]))
    refine wpL_call (by rfl) (fun K hK => ?_)
    go_simp
    refine (refFits_no _ HN.out _).mono ?_
    rintro e w' ⟨rfl, rfl⟩
    refine hK _ _ (Below.refl _ _) ?_
    clear hK K
    repeat (first | (refine wpL_quiet (by rfl) (fun K hK => ?_); go_big_quiet_op; refine hK _ ?_; clear hK K) | (refine wpL_skip (by rfl) ?_; simp only [Act.put, List.setIfInBounds_toArray, List.set_cons_zero, List.set_cons_succ]))
    refine wpL_call (by rfl) (fun K hK => ?_)
    go_simp
    refine (numAwake_any _).mono ?_
    rintro e w4 ⟨rfl, hb4⟩
    have HB4 := Lib.hid hb4
    refine hK _ _ hb4 ?_
    clear hK K hb4
    repeat (first | (refine wpL_quiet (by rfl) (fun K hK => ?_); go_big_quiet_op; refine hK _ ?_; clear hK K) | (refine wpL_skip (by rfl) ?_; simp only [Act.put, List.setIfInBounds_toArray, List.set_cons_zero, List.set_cons_succ]))
    refine wpL_nil ?_
    go_wp2
    go_ret
    exact ⟨rfl, ((Below.refl _ w).drew).trans HB4.out⟩
end Go.Proofs.Ytkhnhlnnfeebmaa
