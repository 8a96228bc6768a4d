/- The walk of the law UtfForms: whatever ints it is called with, it answers true; what was there stays as it was. No condition. -/
import Derived.Test.YtdkddehapddgmaaUtfStr
import Derived.Test.YtdkddehapddgmaaRound
namespace Go.Proofs.Ytdkddehapddgmaa
open Go.RowKit Go.Deep

theorem text_one (x : Int) (w : World) (g : Nat) (t : TypeId) (hg : g = w.heap.size) :
    Calls Try.prog 17 #[.slice (some ⟨g, 0, none⟩) 1 1] (w.alloc (.cells #[.int .i64 x] t)) fun e w' =>
      ((∃ vs, VZ [x] vs ∧ e = .returned (.tuple #[.string (bstr (E vs)), .int .i64 0])) ∨ ((¬ ∃ vs, VZ [x] vs) ∧ e = .returned (.tuple #[.string { data := #[] }, .int .i64 2]))) ∧ Below w.heap.size w w' := by
  refine (utfText_any (A := some ⟨g, 0, none⟩) (l := [x]) 1 (by simp) _ (IntsAt.lit (fun j y hj => ?_) hg)).mono ?_
  · match j, hj with
    | 0, hj => simp at hj; subst hj; rfl
    | (j + 1), hj => simp at hj
  · rintro e w' ⟨h, hb⟩
    exact ⟨h, ((Below.refl _ w).alloc (Nat.le_refl _) _).trans (hb.mono (by simp))⟩
theorem text_yes {p : Nat} (h : May p) (x : Int) (hx : x = p) (w : World) (g : Nat) (t : TypeId) (hg : g = w.heap.size) :
    Calls Try.prog 17 #[.slice (some ⟨g, 0, none⟩) 1 1] (w.alloc (.cells #[.int .i64 x] t)) fun e w' => e = .returned (.tuple #[.string (bstr (enc p)), .int .i64 0]) ∧ Below w.heap.size w w' := by
  subst hx
  have hz : VZ [(p : Int)] [p] := ⟨by intro y hy; rw [List.mem_singleton.1 hy]; exact h, rfl⟩
  refine (text_one _ w g t hg).mono ?_
  rintro e w' ⟨⟨vs, hv, he⟩ | ⟨hn, _⟩, hb⟩
  · rw [← hz.uniq hv, E_cons, E_nil, List.append_nil] at he
    exact ⟨he, hb⟩
  · exact absurd ⟨_, hz⟩ hn
theorem text_no {x : Int} (h : ¬ (0 < x ∧ x ≤ 1114111 ∧ (x < 55296 ∨ 57343 < x))) (w : World) (g : Nat) (t : TypeId) (hg : g = w.heap.size) :
    Calls Try.prog 17 #[.slice (some ⟨g, 0, none⟩) 1 1] (w.alloc (.cells #[.int .i64 x] t)) fun e w' => e = .returned (.tuple #[.string { data := #[] }, .int .i64 2]) ∧ Below w.heap.size w w' := by
  refine (text_one _ w g t hg).mono ?_
  rintro e w' ⟨⟨vs, hv, _⟩ | ⟨_, he⟩, hb⟩
  · exact absurd ⟨vs, hv⟩ (VZ.not (k := 0) (by simp) h)
  · exact ⟨he, hb⟩

set_option maxRecDepth 100000 in
theorem utfForms_no (x more : Int) (hx : ¬ (0 < x ∧ x ≤ 1114111 ∧ (x < 55296 ∨ 57343 < x))) (w : World) :
    Calls Try.prog 5 #[.int .i64 x, .int .i64 more] w fun e w' => e = .returned (.bool true) ∧ Below w.heap.size w w' := by
  have GT := Lib.hid (text_no hx)
  have hc : Hid (x < 1 ∨ (1 ≤ x ∧ 1114111 < x) ∨ (1 ≤ x ∧ x ≤ 1114111 ∧ 55296 ≤ x ∧ x ≤ 57343)) := by show _ ∨ _; omega
  clear hx
  rcases hc.out with h1 | ⟨h1, h2⟩ | ⟨h1, h2, h3, h4⟩
  case' inr.inr => have d1 : decide (x < 55296) = false := decide_eq_false (by omega)
  case' inr.inr => have d2 : decide (57343 < x) = false := decide_eq_false (by omega)
  all_goals
    go_enter Try.func5, Try.ntmps5
    go_wp2_with fail
    refine (GT.out _ _ _ rfl).mono ?_
    rintro e w1 ⟨rfl, hb1⟩
    have HB1 := Lib.hid hb1; clear hb1
    go_wp2_with fail
    refine (utfAwake_any _).mono ?_
    rintro e w2 ⟨rfl, hb2⟩
    have HB2 := Lib.hid hb2; clear hb2
    go_wp2
    go_ret
    exact ⟨rfl, bstep HB1.out HB2.out⟩

set_option maxHeartbeats 1000000 in
set_option maxRecDepth 100000 in
theorem utfForms_1 {p : Nat} (h : May p) (hp : p < 128) (x more : Int) (hxp : x = p) (w : World) :
    Calls Try.prog 5 #[.int .i64 x, .int .i64 more] w fun e w' => e = .returned (.bool true) ∧ Below w.heap.size w w' := by
  have HXP := Lib.hid hxp
  have GT := Lib.hid (text_yes h x hxp)
  have hlen : (enc p).length = 1 := by rw [enc_length, if_pos hp]
  have GV := Lib.hid (fun w => utfValid_yes (V.one h) (by rw [hlen]; omega) w)
  have GVV := Lib.hid (fun w => utfValid_yes ((V.one h).app (V.one h)) (by rw [List.length_append, hlen]; omega) w)
  have hlt := (V.one h).lt
  have GK : Hid (∀ k, 0 < k → k < 1 → ∀ w, Calls Try.prog 13 #[.string (bstr ((enc p).drop k))] w fun e w' => e = .returned (.bool false) ∧ w = w') := by
    intro k h0 hk w
    refine utfValid_no (cut_tail (List.take_append_drop k (enc p)).symm ?_ ?_) (fun x hx => hlt x (List.mem_of_mem_drop hx)) (by rw [List.length_drop, hlen]; omega) w
    · intro e; have := congrArg List.length e; rw [List.length_take, hlen] at this; simp at this; omega
    · intro e; have := congrArg List.length e; rw [List.length_drop, hlen] at this; simp at this; omega
  have hadd := add_bstr (enc p) (enc p) (by rw [hlen]; omega) (by rw [hlen]; omega)
  have hsz := bstr_size (enc p)
  rw [hlen] at hsz
  have hsur : Hid (x < 55296 ∨ (¬ x < 55296 ∧ 57343 < x)) := by show _ ∨ _; have := h.2.2; rw [HXP.out]; omega
  have gx1 : 1 ≤ x := by have := h.pos; rw [HXP.out]; omega
  have gx2 : x ≤ 1114111 := by have := h.le; rw [HXP.out]; omega
  have g1 : x < 128 := by rw [HXP.out]; omega
  obtain ⟨r, HR⟩ : ∃ r, Hid (r = rnd more 1) := ⟨_, rfl⟩
  have GR := Lib.hid (fun w => alikeRound_any more 1 (by omega) (by omega) w)
  have hr : r < 1 := by rw [HR.out]; exact rnd_lt more (by omega)
  rw [← HR.out] at GR
  have hs3 : ∀ w, (Instr.slice 9 (.string (bstr (enc p))) (some (.int .i64 (r : Int))) none none).run Try.prog w = .ok (.string (bstr ((enc p).drop r))) w := fun w => slice_bstr_from (enc p) r (by rw [hlen]; omega) w
  have GK1 := Lib.hid (GK.out r)

  obtain ⟨L, HL⟩ : ∃ L, Hid (enc p = L) := ⟨_, rfl⟩
  rw [HL.out] at GT GV GVV GK1 hadd hsz hs3
  obtain ⟨M0, HM0⟩ : ∃ M, Hid (L.drop r = M) := ⟨_, rfl⟩
  rw [HM0.out] at GK1 hs3

  clear hlen hlt h hp hxp GK
  have hsur0 : x < 55296 := by have := hsur.out; omega
  all_goals
    go_enter Try.func5, Try.ntmps5
    go_wp2_with fail
    refine (GT.out _ _ _ rfl).mono ?_
    rintro e w1 ⟨rfl, hb1⟩
    have HB1 := Lib.hid hb1; clear hb1
    go_wp2_with fail
    refine (GV.out _).mono ?_
    rintro e w2 ⟨rfl, rfl⟩
    go_wp2_with fail
    refine (GR.out _).mono ?_
    rintro e w2 ⟨rfl, rfl⟩
    obtain rfl : r = 0 := by omega
    go_wp2_with fail
    refine (GVV.out _).mono ?_
    rintro e w2 ⟨rfl, rfl⟩
    go_wp2_with fail
    refine (utfAwake_any _).mono ?_
    rintro e w2 ⟨rfl, hb2⟩
    have HB2 := Lib.hid hb2; clear hb2
    go_wp2
    go_ret
    exact ⟨rfl, bstep HB1.out HB2.out⟩

set_option maxHeartbeats 1000000 in
set_option maxRecDepth 100000 in
theorem utfForms_2 {p : Nat} (h : May p) (hp : 128 ≤ p ∧ p < 2048) (x more : Int) (hxp : x = p) (w : World) :
    Calls Try.prog 5 #[.int .i64 x, .int .i64 more] w fun e w' => e = .returned (.bool true) ∧ Below w.heap.size w w' := by
  have HXP := Lib.hid hxp
  have GT := Lib.hid (text_yes h x hxp)
  have hlen : (enc p).length = 2 := by rw [enc_length, if_neg (by omega), if_pos hp.2]
  have GV := Lib.hid (fun w => utfValid_yes (V.one h) (by rw [hlen]; omega) w)
  have GVV := Lib.hid (fun w => utfValid_yes ((V.one h).app (V.one h)) (by rw [List.length_append, hlen]; omega) w)
  have hlt := (V.one h).lt
  have GK : Hid (∀ k, 0 < k → k < 2 → ∀ w, Calls Try.prog 13 #[.string (bstr ((enc p).drop k))] w fun e w' => e = .returned (.bool false) ∧ w = w') := by
    intro k h0 hk w
    refine utfValid_no (cut_tail (List.take_append_drop k (enc p)).symm ?_ ?_) (fun x hx => hlt x (List.mem_of_mem_drop hx)) (by rw [List.length_drop, hlen]; omega) w
    · intro e; have := congrArg List.length e; rw [List.length_take, hlen] at this; simp at this; omega
    · intro e; have := congrArg List.length e; rw [List.length_drop, hlen] at this; simp at this; omega
  have GH : Hid (∀ w, Calls Try.prog 13 #[.string (bstr ((enc p).take 1))] w fun e w' => e = .returned (.bool false) ∧ w = w') := by
    intro w
    refine utfValid_no (cut_head h (List.take_append_drop 1 (enc p)).symm ?_ ?_) (fun x hx => hlt x (List.mem_of_mem_take hx)) (by rw [List.length_take, hlen]; omega) w
    · intro e; have := congrArg List.length e; rw [List.length_take, hlen] at this; simp at this
    · intro e; have := congrArg List.length e; rw [List.length_drop, hlen] at this; simp at this
  have hs1 : ∀ w, (Instr.slice 9 (.string (bstr (enc p))) none (some (.int .i64 1)) none).run Try.prog w = .ok (.string (bstr ((enc p).take 1))) w := fun w => slice_bstr_to (enc p) 1 (by rw [hlen]; omega) w
  have hs2 : ∀ w, (Instr.slice 9 (.string (bstr (enc p))) (some (.int .i64 1)) none none).run Try.prog w = .ok (.string (bstr ((enc p).drop 1))) w := fun w => slice_bstr_from (enc p) 1 (by rw [hlen]; omega) w
  have hadd := add_bstr (enc p) (enc p) (by rw [hlen]; omega) (by rw [hlen]; omega)
  have hsz := bstr_size (enc p)
  rw [hlen] at hsz
  have hsur : Hid (x < 55296 ∨ (¬ x < 55296 ∧ 57343 < x)) := by show _ ∨ _; have := h.2.2; rw [HXP.out]; omega
  have gx1 : 1 ≤ x := by have := h.pos; rw [HXP.out]; omega
  have gx2 : x ≤ 1114111 := by have := h.le; rw [HXP.out]; omega
  have g1 : 128 ≤ x := by rw [HXP.out]; omega
  have g2 : x < 2048 := by rw [HXP.out]; omega
  obtain ⟨r, HR⟩ : ∃ r, Hid (r = rnd more 2) := ⟨_, rfl⟩
  have GR := Lib.hid (fun w => alikeRound_any more 2 (by omega) (by omega) w)
  have hr : r < 2 := by rw [HR.out]; exact rnd_lt more (by omega)
  rw [← HR.out] at GR
  have hs3 : ∀ w, (Instr.slice 9 (.string (bstr (enc p))) (some (.int .i64 (r : Int))) none none).run Try.prog w = .ok (.string (bstr ((enc p).drop r))) w := fun w => slice_bstr_from (enc p) r (by rw [hlen]; omega) w
  have GK1 := Lib.hid (GK.out r)
  have GK0 := Lib.hid (GK.out 1 (by omega) (by omega))
  obtain ⟨L, HL⟩ : ∃ L, Hid (enc p = L) := ⟨_, rfl⟩
  rw [HL.out] at GT GV GVV GK1 GH GK0 hs1 hs2 hadd hsz hs3
  obtain ⟨M0, HM0⟩ : ∃ M, Hid (L.drop r = M) := ⟨_, rfl⟩
  rw [HM0.out] at GK1 hs3
  obtain ⟨M1, HM1⟩ : ∃ M, Hid (L.take 1 = M) := ⟨_, rfl⟩
  rw [HM1.out] at GH hs1
  obtain ⟨M2, HM2⟩ : ∃ M, Hid (L.drop 1 = M) := ⟨_, rfl⟩
  rw [HM2.out] at GK0 hs2
  clear hlen hlt h hp hxp GK
  have hsur0 : x < 55296 := by have := hsur.out; omega
  all_goals
    go_enter Try.func5, Try.ntmps5
    go_wp2_with fail
    refine (GT.out _ _ _ rfl).mono ?_
    rintro e w1 ⟨rfl, hb1⟩
    have HB1 := Lib.hid hb1; clear hb1
    go_wp2_with fail
    refine (GV.out _).mono ?_
    rintro e w2 ⟨rfl, rfl⟩
    go_wp2_with fail
    refine (GR.out _).mono ?_
    rintro e w2 ⟨rfl, rfl⟩
    by_cases hr0 : r = 0
    · subst hr0
      go_wp2_with fail
      refine (GH.out _).mono ?_
      rintro e w2 ⟨rfl, rfl⟩
      go_wp2_with fail
      refine (GK0.out _).mono ?_
      rintro e w2 ⟨rfl, rfl⟩
      go_wp2_with fail
      refine (GVV.out _).mono ?_
      rintro e w2 ⟨rfl, rfl⟩
      go_wp2_with fail
      refine (utfAwake_any _).mono ?_
      rintro e w2 ⟨rfl, hb2⟩
      have HB2 := Lib.hid hb2; clear hb2
      go_wp2
      go_ret
      exact ⟨rfl, bstep HB1.out HB2.out⟩
    · have er : ((r : Int) == 0) = false := beq_eq_false_iff_ne.2 (by omega)
      have hr1 : 0 < r := by omega
      go_wp2_with fail
      refine (GH.out _).mono ?_
      rintro e w2 ⟨rfl, rfl⟩
      go_wp2_with fail
      refine (GK0.out _).mono ?_
      rintro e w2 ⟨rfl, rfl⟩
      go_wp2_with fail
      refine (GVV.out _).mono ?_
      rintro e w2 ⟨rfl, rfl⟩
      go_wp2_with fail
      refine (GK1.out hr1 hr _).mono ?_
      rintro e w2 ⟨rfl, rfl⟩
      go_wp2_with fail
      refine (utfAwake_any _).mono ?_
      rintro e w2 ⟨rfl, hb2⟩
      have HB2 := Lib.hid hb2; clear hb2
      go_wp2
      go_ret
      exact ⟨rfl, bstep HB1.out HB2.out⟩

set_option maxHeartbeats 1000000 in
set_option maxRecDepth 100000 in
theorem utfForms_3 {p : Nat} (h : May p) (hp : 2048 ≤ p ∧ p < 65536) (x more : Int) (hxp : x = p) (w : World) :
    Calls Try.prog 5 #[.int .i64 x, .int .i64 more] w fun e w' => e = .returned (.bool true) ∧ Below w.heap.size w w' := by
  have HXP := Lib.hid hxp
  have GT := Lib.hid (text_yes h x hxp)
  have hlen : (enc p).length = 3 := by rw [enc_length, if_neg (by omega), if_neg (by omega), if_pos hp.2]
  have GV := Lib.hid (fun w => utfValid_yes (V.one h) (by rw [hlen]; omega) w)
  have GVV := Lib.hid (fun w => utfValid_yes ((V.one h).app (V.one h)) (by rw [List.length_append, hlen]; omega) w)
  have hlt := (V.one h).lt
  have GK : Hid (∀ k, 0 < k → k < 3 → ∀ w, Calls Try.prog 13 #[.string (bstr ((enc p).drop k))] w fun e w' => e = .returned (.bool false) ∧ w = w') := by
    intro k h0 hk w
    refine utfValid_no (cut_tail (List.take_append_drop k (enc p)).symm ?_ ?_) (fun x hx => hlt x (List.mem_of_mem_drop hx)) (by rw [List.length_drop, hlen]; omega) w
    · intro e; have := congrArg List.length e; rw [List.length_take, hlen] at this; simp at this; omega
    · intro e; have := congrArg List.length e; rw [List.length_drop, hlen] at this; simp at this; omega
  have GH : Hid (∀ w, Calls Try.prog 13 #[.string (bstr ((enc p).take 2))] w fun e w' => e = .returned (.bool false) ∧ w = w') := by
    intro w
    refine utfValid_no (cut_head h (List.take_append_drop 2 (enc p)).symm ?_ ?_) (fun x hx => hlt x (List.mem_of_mem_take hx)) (by rw [List.length_take, hlen]; omega) w
    · intro e; have := congrArg List.length e; rw [List.length_take, hlen] at this; simp at this
    · intro e; have := congrArg List.length e; rw [List.length_drop, hlen] at this; simp at this
  have hs1 : ∀ w, (Instr.slice 9 (.string (bstr (enc p))) none (some (.int .i64 2)) none).run Try.prog w = .ok (.string (bstr ((enc p).take 2))) w := fun w => slice_bstr_to (enc p) 2 (by rw [hlen]; omega) w
  have hs2 : ∀ w, (Instr.slice 9 (.string (bstr (enc p))) (some (.int .i64 2)) none none).run Try.prog w = .ok (.string (bstr ((enc p).drop 2))) w := fun w => slice_bstr_from (enc p) 2 (by rw [hlen]; omega) w
  have hadd := add_bstr (enc p) (enc p) (by rw [hlen]; omega) (by rw [hlen]; omega)
  have hsz := bstr_size (enc p)
  rw [hlen] at hsz
  have hsur : Hid (x < 55296 ∨ (¬ x < 55296 ∧ 57343 < x)) := by show _ ∨ _; have := h.2.2; rw [HXP.out]; omega
  have gx1 : 1 ≤ x := by have := h.pos; rw [HXP.out]; omega
  have gx2 : x ≤ 1114111 := by have := h.le; rw [HXP.out]; omega
  have g1 : 2048 ≤ x := by rw [HXP.out]; omega
  have g2 : x < 65536 := by rw [HXP.out]; omega
  obtain ⟨r, HR⟩ : ∃ r, Hid (r = rnd more 3) := ⟨_, rfl⟩
  have GR := Lib.hid (fun w => alikeRound_any more 3 (by omega) (by omega) w)
  have hr : r < 3 := by rw [HR.out]; exact rnd_lt more (by omega)
  rw [← HR.out] at GR
  have hs3 : ∀ w, (Instr.slice 9 (.string (bstr (enc p))) (some (.int .i64 (r : Int))) none none).run Try.prog w = .ok (.string (bstr ((enc p).drop r))) w := fun w => slice_bstr_from (enc p) r (by rw [hlen]; omega) w
  have GK1 := Lib.hid (GK.out r)
  have GK0 := Lib.hid (GK.out 2 (by omega) (by omega))
  obtain ⟨L, HL⟩ : ∃ L, Hid (enc p = L) := ⟨_, rfl⟩
  rw [HL.out] at GT GV GVV GK1 GH GK0 hs1 hs2 hadd hsz hs3
  obtain ⟨M0, HM0⟩ : ∃ M, Hid (L.drop r = M) := ⟨_, rfl⟩
  rw [HM0.out] at GK1 hs3
  obtain ⟨M1, HM1⟩ : ∃ M, Hid (L.take 2 = M) := ⟨_, rfl⟩
  rw [HM1.out] at GH hs1
  obtain ⟨M2, HM2⟩ : ∃ M, Hid (L.drop 2 = M) := ⟨_, rfl⟩
  rw [HM2.out] at GK0 hs2
  clear hlen hlt h hp hxp GK
  rcases hsur.out with hsur | ⟨hsur, hsur2⟩
  all_goals
    go_enter Try.func5, Try.ntmps5
    go_wp2_with fail
    refine (GT.out _ _ _ rfl).mono ?_
    rintro e w1 ⟨rfl, hb1⟩
    have HB1 := Lib.hid hb1; clear hb1
    go_wp2_with fail
    refine (GV.out _).mono ?_
    rintro e w2 ⟨rfl, rfl⟩
    go_wp2_with fail
    refine (GR.out _).mono ?_
    rintro e w2 ⟨rfl, rfl⟩
    by_cases hr0 : r = 0
    · subst hr0
      go_wp2_with fail
      refine (GH.out _).mono ?_
      rintro e w2 ⟨rfl, rfl⟩
      go_wp2_with fail
      refine (GK0.out _).mono ?_
      rintro e w2 ⟨rfl, rfl⟩
      go_wp2_with fail
      refine (GVV.out _).mono ?_
      rintro e w2 ⟨rfl, rfl⟩
      go_wp2_with fail
      refine (utfAwake_any _).mono ?_
      rintro e w2 ⟨rfl, hb2⟩
      have HB2 := Lib.hid hb2; clear hb2
      go_wp2
      go_ret
      exact ⟨rfl, bstep HB1.out HB2.out⟩
    · have er : ((r : Int) == 0) = false := beq_eq_false_iff_ne.2 (by omega)
      have hr1 : 0 < r := by omega
      go_wp2_with fail
      refine (GH.out _).mono ?_
      rintro e w2 ⟨rfl, rfl⟩
      go_wp2_with fail
      refine (GK0.out _).mono ?_
      rintro e w2 ⟨rfl, rfl⟩
      go_wp2_with fail
      refine (GVV.out _).mono ?_
      rintro e w2 ⟨rfl, rfl⟩
      go_wp2_with fail
      refine (GK1.out hr1 hr _).mono ?_
      rintro e w2 ⟨rfl, rfl⟩
      go_wp2_with fail
      refine (utfAwake_any _).mono ?_
      rintro e w2 ⟨rfl, hb2⟩
      have HB2 := Lib.hid hb2; clear hb2
      go_wp2
      go_ret
      exact ⟨rfl, bstep HB1.out HB2.out⟩

set_option maxHeartbeats 1000000 in
set_option maxRecDepth 100000 in
theorem utfForms_4 {p : Nat} (h : May p) (hp : 65536 ≤ p) (x more : Int) (hxp : x = p) (w : World) :
    Calls Try.prog 5 #[.int .i64 x, .int .i64 more] w fun e w' => e = .returned (.bool true) ∧ Below w.heap.size w w' := by
  have HXP := Lib.hid hxp
  have GT := Lib.hid (text_yes h x hxp)
  have hlen : (enc p).length = 4 := by rw [enc_length, if_neg (by omega), if_neg (by omega), if_neg (by omega)]
  have GV := Lib.hid (fun w => utfValid_yes (V.one h) (by rw [hlen]; omega) w)
  have GVV := Lib.hid (fun w => utfValid_yes ((V.one h).app (V.one h)) (by rw [List.length_append, hlen]; omega) w)
  have hlt := (V.one h).lt
  have GK : Hid (∀ k, 0 < k → k < 4 → ∀ w, Calls Try.prog 13 #[.string (bstr ((enc p).drop k))] w fun e w' => e = .returned (.bool false) ∧ w = w') := by
    intro k h0 hk w
    refine utfValid_no (cut_tail (List.take_append_drop k (enc p)).symm ?_ ?_) (fun x hx => hlt x (List.mem_of_mem_drop hx)) (by rw [List.length_drop, hlen]; omega) w
    · intro e; have := congrArg List.length e; rw [List.length_take, hlen] at this; simp at this; omega
    · intro e; have := congrArg List.length e; rw [List.length_drop, hlen] at this; simp at this; omega
  have GH : Hid (∀ w, Calls Try.prog 13 #[.string (bstr ((enc p).take 3))] w fun e w' => e = .returned (.bool false) ∧ w = w') := by
    intro w
    refine utfValid_no (cut_head h (List.take_append_drop 3 (enc p)).symm ?_ ?_) (fun x hx => hlt x (List.mem_of_mem_take hx)) (by rw [List.length_take, hlen]; omega) w
    · intro e; have := congrArg List.length e; rw [List.length_take, hlen] at this; simp at this
    · intro e; have := congrArg List.length e; rw [List.length_drop, hlen] at this; simp at this
  have hs1 : ∀ w, (Instr.slice 9 (.string (bstr (enc p))) none (some (.int .i64 3)) none).run Try.prog w = .ok (.string (bstr ((enc p).take 3))) w := fun w => slice_bstr_to (enc p) 3 (by rw [hlen]; omega) w
  have hs2 : ∀ w, (Instr.slice 9 (.string (bstr (enc p))) (some (.int .i64 3)) none none).run Try.prog w = .ok (.string (bstr ((enc p).drop 3))) w := fun w => slice_bstr_from (enc p) 3 (by rw [hlen]; omega) w
  have hadd := add_bstr (enc p) (enc p) (by rw [hlen]; omega) (by rw [hlen]; omega)
  have hsz := bstr_size (enc p)
  rw [hlen] at hsz
  have hsur : Hid (x < 55296 ∨ (¬ x < 55296 ∧ 57343 < x)) := by show _ ∨ _; have := h.2.2; rw [HXP.out]; omega
  have gx1 : 1 ≤ x := by have := h.pos; rw [HXP.out]; omega
  have gx2 : x ≤ 1114111 := by have := h.le; rw [HXP.out]; omega
  have g1 : 65536 ≤ x := by rw [HXP.out]; omega
  obtain ⟨r, HR⟩ : ∃ r, Hid (r = rnd more 4) := ⟨_, rfl⟩
  have GR := Lib.hid (fun w => alikeRound_any more 4 (by omega) (by omega) w)
  have hr : r < 4 := by rw [HR.out]; exact rnd_lt more (by omega)
  rw [← HR.out] at GR
  have hs3 : ∀ w, (Instr.slice 9 (.string (bstr (enc p))) (some (.int .i64 (r : Int))) none none).run Try.prog w = .ok (.string (bstr ((enc p).drop r))) w := fun w => slice_bstr_from (enc p) r (by rw [hlen]; omega) w
  have GK1 := Lib.hid (GK.out r)
  have GK0 := Lib.hid (GK.out 3 (by omega) (by omega))
  obtain ⟨L, HL⟩ : ∃ L, Hid (enc p = L) := ⟨_, rfl⟩
  rw [HL.out] at GT GV GVV GK1 GH GK0 hs1 hs2 hadd hsz hs3
  obtain ⟨M0, HM0⟩ : ∃ M, Hid (L.drop r = M) := ⟨_, rfl⟩
  rw [HM0.out] at GK1 hs3
  obtain ⟨M1, HM1⟩ : ∃ M, Hid (L.take 3 = M) := ⟨_, rfl⟩
  rw [HM1.out] at GH hs1
  obtain ⟨M2, HM2⟩ : ∃ M, Hid (L.drop 3 = M) := ⟨_, rfl⟩
  rw [HM2.out] at GK0 hs2
  clear hlen hlt h hp hxp GK
  have hsur0 : ¬ x < 55296 := by omega
  have hsur2 : 57343 < x := by omega
  all_goals
    go_enter Try.func5, Try.ntmps5
    go_wp2_with fail
    refine (GT.out _ _ _ rfl).mono ?_
    rintro e w1 ⟨rfl, hb1⟩
    have HB1 := Lib.hid hb1; clear hb1
    go_wp2_with fail
    refine (GV.out _).mono ?_
    rintro e w2 ⟨rfl, rfl⟩
    go_wp2_with fail
    refine (GR.out _).mono ?_
    rintro e w2 ⟨rfl, rfl⟩
    by_cases hr0 : r = 0
    · subst hr0
      go_wp2_with fail
      refine (GH.out _).mono ?_
      rintro e w2 ⟨rfl, rfl⟩
      go_wp2_with fail
      refine (GK0.out _).mono ?_
      rintro e w2 ⟨rfl, rfl⟩
      go_wp2_with fail
      refine (GVV.out _).mono ?_
      rintro e w2 ⟨rfl, rfl⟩
      go_wp2_with fail
      refine (utfAwake_any _).mono ?_
      rintro e w2 ⟨rfl, hb2⟩
      have HB2 := Lib.hid hb2; clear hb2
      go_wp2
      go_ret
      exact ⟨rfl, bstep HB1.out HB2.out⟩
    · have er : ((r : Int) == 0) = false := beq_eq_false_iff_ne.2 (by omega)
      have hr1 : 0 < r := by omega
      go_wp2_with fail
      refine (GH.out _).mono ?_
      rintro e w2 ⟨rfl, rfl⟩
      go_wp2_with fail
      refine (GK0.out _).mono ?_
      rintro e w2 ⟨rfl, rfl⟩
      go_wp2_with fail
      refine (GVV.out _).mono ?_
      rintro e w2 ⟨rfl, rfl⟩
      go_wp2_with fail
      refine (GK1.out hr1 hr _).mono ?_
      rintro e w2 ⟨rfl, rfl⟩
      go_wp2_with fail
      refine (utfAwake_any _).mono ?_
      rintro e w2 ⟨rfl, hb2⟩
      have HB2 := Lib.hid hb2; clear hb2
      go_wp2
      go_ret
      exact ⟨rfl, bstep HB1.out HB2.out⟩

theorem utfForms_any (x more : Int) (w : World) :
    Calls Try.prog 5 #[.int .i64 x, .int .i64 more] w fun e w' => e = .returned (.bool true) ∧ Below w.heap.size w w' := by
  by_cases hx : 0 < x ∧ x ≤ 1114111 ∧ (x < 55296 ∨ 57343 < x)
  · obtain ⟨p, hp⟩ := Int.eq_ofNat_of_zero_le (show 0 ≤ x by omega)
    have hm : May p := by unfold May; omega
    by_cases h1 : p < 128
    · exact utfForms_1 hm h1 x more hp w
    by_cases h2 : p < 2048
    · exact utfForms_2 hm ⟨by omega, h2⟩ x more hp w
    by_cases h3 : p < 65536
    · exact utfForms_3 hm ⟨by omega, h3⟩ x more hp w
    · exact utfForms_4 hm (by omega) x more hp w
  · exact utfForms_no x more hx w
end Go.Proofs.Ytdkddehapddgmaa
