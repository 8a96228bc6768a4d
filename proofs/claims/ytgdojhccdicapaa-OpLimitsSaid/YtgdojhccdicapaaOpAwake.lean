/- The contract of the statements' own awake: it answers true; what was there stays as it was. No condition. -/
import Derived.Test.YtgdojhccdicapaaOpOf
import Derived.Test.YtgdojhccdicapaaOpCheck
import Derived.Test.YtgdojhccdicapaaOpSame
import Derived.Test.YtgdojhccdicapaaAlikeComps
namespace Go.Proofs.Ytgdojhccdicapaa
open Go.RowKit Go.Deep

/-- What the guards of the statements say of an edit. -/
theorem weight_spec (lim : Nat) (hlim : lim < 1099511627776) (l : List CompV) (h : compsWeight lim l ≤ lim) : 2 * l.length + tlen l ≤ lim := by
  have e := wts_spec lim hlim (l.map compTerms) 0 h
  have e2 : ∀ l : List CompV, ((l.map compTerms).map List.sum).sum = 2 * l.length + tlen l := by
    intro l
    induction l with
    | nil => rfl
    | cons c l ih =>
      have h1 : tlen (c :: l) = c.text.length + tlen l := by simp [tlen]
      rw [List.map_cons, List.map_cons, List.sum_cons, ih, h1, List.length_cons]
      simp only [compTerms, List.sum_cons, List.sum_nil]
      omega
  rw [e2] at e
  have : compsWeight lim l = 0 + (2 * l.length + tlen l) := e
  omega
theorem tlen_mem {l : List CompV} {y : CompV} (h : y ∈ l) : y.text.length ≤ tlen l := by
  obtain ⟨i, hi, rfl⟩ := List.getElem_of_mem h
  have := tlen_get hi
  omega
theorem fine_of {l : List CompV} (hg : ∀ y ∈ l, y.Good) (ht : tlen l ≤ 1099511627776) : Fine1 l := fun y hy => ⟨hg y hy, Nat.le_trans (tlen_mem hy) ht⟩

theorem good_of (k n : Int) (t : List Nat) (hk : 0 ≤ k ∧ k ≤ 9) (hn : 0 ≤ n ∧ n ≤ 1099511627776) (ht : (∀ x ∈ t, x < 256) ∧ t.length ≤ 1099511627776) : (CompV.mk k n t).Good :=
  ⟨by unfold Fit64; show _ ≤ k ∧ k ≤ _; omega, by unfold Fit64; show _ ≤ n ∧ n ≤ _; omega, ht.1, by have := ht.2; unfold maxLen; show t.length ≤ _; omega⟩
theorem V_one (x : Nat) (h : 0 < x ∧ x < 128) : V [x] [x] := by
  refine ⟨?_, ?_⟩
  · intro v hv; simp at hv; subst hv; unfold May; omega
  · rw [E_cons, E_nil]
    have e : enc x = [x] := by
      unfold enc
      rw [if_pos h.2]
    rw [e]; rfl
theorem nrm_nil : Nrm [] := fun i c h => by simp at h
/-- The parts of a normal edit, one by one. -/
theorem nrm_cons {c : CompV} {l : List CompV} (hc : Whole c) (hl : Nrm l) (hd : ∀ d, l[0]? = some d → d.kind ≠ c.kind ∧ ¬ (c.kind = 3 ∧ d.kind = 2)) : Nrm (c :: l) := by
  intro i d h
  cases i with
  | zero =>
    simp at h
    subst h
    refine ⟨?_, fun p h0 => by omega⟩
    rcases hc with h | ⟨h1, h2, h3, h4⟩
    · exact .inl h
    · exact .inr ⟨h1, h2, h3, h4, fun p h0 => by omega⟩
  | succ i =>
    have h' : l[i]? = some d := by simpa using h
    have hn := hl i d h'
    have hpre : ∀ p, (c :: l)[i + 1 - 1]? = some p → (i = 0 ∧ p = c) ∨ (0 < i ∧ l[i - 1]? = some p) := fun p hp => by
      rw [Nat.add_sub_cancel] at hp
      cases i with
      | zero => simp at hp; exact .inl ⟨rfl, hp.symm⟩
      | succ j => exact .inr ⟨by omega, by simpa using hp⟩
    refine ⟨?_, fun p _ hp => ?_⟩
    · rcases hn.1 with h1 | ⟨h1, h2, h3, h4, h5⟩
      · exact .inl h1
      · refine .inr ⟨h1, h2, h3, h4, fun p _ hp => ?_⟩
        rcases hpre p hp with ⟨rfl, rfl⟩ | ⟨h0, hp'⟩
        · exact fun e => (hd d h').2 ⟨e, h1⟩
        · exact h5 p h0 hp'
    · rcases hpre p hp with ⟨rfl, rfl⟩ | ⟨h0, hp'⟩
      · exact fun e => (hd d h').1 e.symm
      · exact hn.2 p h0 hp'
/-- A row of one part. -/
theorem row_one (w : World) (g : Nat) (hg : g = w.heap.size) (k n : Int) (t : List Nat) : CompsAt (w.alloc (.cells #[.int .i64 k, .int .i64 n, .string (bstr t)] 35)) (some ⟨g, 0, none⟩) [⟨k, n, t⟩] :=
  CellsAt.lit (fun j v hj => by
    match j, hj with
    | 0, hj => cases hj; rfl
    | 1, hj => cases hj; rfl
    | 2, hj => cases hj; rfl) hg
theorem row_two (w : World) (g : Nat) (hg : g = w.heap.size) (k n : Int) (t : List Nat) (k' n' : Int) (t' : List Nat) :
    CompsAt (w.alloc (.cells #[.int .i64 k, .int .i64 n, .string (bstr t), .int .i64 k', .int .i64 n', .string (bstr t')] 35)) (some ⟨g, 0, none⟩) [⟨k, n, t⟩, ⟨k', n', t'⟩] :=
  CellsAt.lit (fun j v hj => by
    match j, hj with
    | 0, hj => cases hj; rfl
    | 1, hj => cases hj; rfl
    | 2, hj => cases hj; rfl
    | 3, hj => cases hj; rfl
    | 4, hj => cases hj; rfl
    | 5, hj => cases hj; rfl) hg

theorem hld_small {a b : Int} (h1 : 0 ≤ a) (h2 : 0 ≤ b) (h3 : a + b ≤ 1099511627776) : hld a b = a + b := by unfold hld; omega
theorem hld01 : hld 0 1 = 1 := hld_small (by omega) (by omega) (by omega)
theorem hld11 : hld 1 1 = 2 := hld_small (by omega) (by omega) (by omega)
theorem hld21 : hld 2 1 = 3 := hld_small (by omega) (by omega) (by omega)
theorem aw_norm : rNormal [⟨3, 1, []⟩, ⟨2, 0, [97]⟩] = [⟨2, 0, [97]⟩, ⟨3, 1, []⟩] := by simp [rNormal, nRun, nStep, nStart, NS.flush, keepOf, textOf, goneOf, hld01]
theorem aw_of : rNormal (ofParts 3 1 2 [120]) = [⟨1, 1, []⟩, ⟨2, 0, [120]⟩, ⟨3, 1, []⟩, ⟨1, 1, []⟩] := by simp [rNormal, ofParts, nRun, nStep, nStart, NS.flush, keepOf, textOf, goneOf, hld01]
theorem aw_one : loose [97] = 1 := (V_one 97 (by omega)).loose
theorem aw_one' : loose [120] = 1 := (V_one 120 (by omega)).loose
theorem aw_base : rBase [⟨1, 1, []⟩, ⟨2, 0, [120]⟩, ⟨3, 1, []⟩, ⟨1, 1, []⟩] = 3 := by simp [rBase, baseStep, hld01, hld11, hld21]
theorem aw_out : rOut [⟨1, 1, []⟩, ⟨2, 0, [120]⟩, ⟨3, 1, []⟩, ⟨1, 1, []⟩] = 3 := by simp [rOut, outStep, hld01, hld11, hld21, aw_one']
theorem aw_check : rCheck [⟨2, 0, [97]⟩, ⟨3, 1, []⟩] = 0 := by
  have h1 : Nrm [⟨2, 0, [97]⟩, ⟨3, 1, []⟩] := nrm_cons (.inr ⟨rfl, rfl, by simp, _, V_one 97 (by omega)⟩) (nrm_cons (.inl ⟨.inr rfl, by show (1 : Int) ≤ 1; omega, rfl⟩) nrm_nil (fun d h => by simp at h)) (fun d h => by simp at h; subst h; simp)
  have h2 : rBase [⟨2, 0, [97]⟩, ⟨3, 1, []⟩] = 1 := by simp [rBase, baseStep, hld01]
  have h3 : rOut [⟨2, 0, [97]⟩, ⟨3, 1, []⟩] = 1 := by simp [rOut, outStep, hld01, aw_one]
  rw [rCheck, nrmB_yes h1, h2, h3]
  simp
theorem aw_bad : rCheck [⟨9, 0, []⟩] = 1 := by
  have h1 : ¬ Nrm [⟨9, 0, []⟩] := fun h => by
    rcases (h 0 _ rfl).1 with ⟨h, _⟩ | ⟨h, _⟩
    · rcases h with h | h <;> simp at h
    · simp at h
  rw [rCheck, nrmB_no h1]
  simp

set_option maxHeartbeats 2000000 in
set_option maxRecDepth 100000 in
theorem opAwake_any (w : World) : Calls Try.prog 8 #[] w fun e w' => e = .returned (.bool true) ∧ Below w.heap.size w w' := by
  have GN : Hid (∀ (w : World) (g : Nat), g = w.heap.size → Calls Try.prog 12 #[.slice (some ⟨g, 0, none⟩) 2 2] (w.alloc (.cells #[.int .i64 3, .int .i64 1, .string { data := #[] }, .int .i64 2, .int .i64 0, .string { data := #[97] }] 35)) fun e w' =>
      ∃ A c, e = .returned (.slice A 2 c) ∧ CompsAt w' A [⟨2, 0, [97]⟩, ⟨3, 1, []⟩] ∧ Below w.heap.size w w') := by
    intro w g hg
    refine (opNormal_any (some ⟨g, 0, none⟩) 2 [⟨3, 1, []⟩, ⟨2, 0, [97]⟩] (by simp) (by simp [tlen]) (fun y hy => ?_) _ (row_two w g hg 3 1 [] 2 0 [97])).mono ?_
    · simp at hy
      rcases hy with rfl | rfl
      · exact good_of _ _ _ (by omega) (by omega) (by simp)
      · exact good_of _ _ _ (by omega) (by omega) (by simp)
    · rintro e w' ⟨A, c, rfl, ho, hb⟩
      rw [aw_norm] at ho ⊢
      exact ⟨A, c, rfl, CellsAt.of_own ho, ((Below.refl _ w).alloc (Nat.le_refl _) _).trans (hb.mono (by simp))⟩
  have GO1 : Hid (∀ w : World, Calls Try.prog 25 #[.int .i64 3, .int .i64 2, .int .i64 1, .string { data := #[] }] w fun e w' => e = .returned (.tuple #[.slice none 0 0, .int .i64 1]) ∧ Below w.heap.size w w') := fun w =>
    (opOf_any 3 2 1 [] (by omega) (by simp) (by simp) w).mono fun e w' h => ⟨by
      rcases h.1 with h | h
      · exact h.2
      · exact absurd (.inr (.inl (by omega))) h.1, h.2⟩
  have GO2 : Hid (∀ w : World, Calls Try.prog 25 #[.int .i64 3, .int .i64 1, .int .i64 2, .string { data := #[120] }] w fun e w' => (∃ A c, e = .returned (.tuple #[.slice A 4 c, .int .i64 0]) ∧ CompsAt w' A [⟨1, 1, []⟩, ⟨2, 0, [120]⟩, ⟨3, 1, []⟩, ⟨1, 1, []⟩]) ∧ Below w.heap.size w w') := fun w =>
    (opOf_any 3 1 2 [120] (by omega) (by simp) (by simp) w).mono fun e w' h => ⟨by
      rcases h.1 with h | ⟨_, A, c, h1, h2⟩
      · exfalso
        rcases h.1 with h | h | h | h
        · omega
        · omega
        · omega
        · exact h ⟨_, V_one 120 (by omega)⟩
      · rw [aw_of] at h1 h2
        exact ⟨A, c, h1, CellsAt.of_own h2⟩, h.2⟩
  have GC : Hid (∀ (A : Option Addr) (c : Nat) (w : World), CompsAt w A [⟨2, 0, [97]⟩, ⟨3, 1, []⟩] → Calls Try.prog 9 #[.slice A 2 c] w fun e w' => e = .returned (.int .i64 0) ∧ Below w.heap.size w w') := fun A c w h => by
    have := opCheck_any A c [⟨2, 0, [97]⟩, ⟨3, 1, []⟩] (by simp [maxLen]) (fine_of (fun y hy => by
      simp at hy
      rcases hy with rfl | rfl
      · exact good_of _ _ _ (by omega) (by omega) (by simp)
      · exact good_of _ _ _ (by omega) (by omega) (by simp)) (by simp [tlen])) w h
    rw [aw_check] at this
    exact this
  have GC9 : Hid (∀ (w : World) (g : Nat), g = w.heap.size → Calls Try.prog 9 #[.slice (some ⟨g, 0, none⟩) 1 1] (w.alloc (.cells #[.int .i64 9, .int .i64 0, .string { data := #[] }] 35)) fun e w' => e = .returned (.int .i64 1) ∧ Below w.heap.size w w') := fun w g hg => by
    have := opCheck_any (some ⟨g, 0, none⟩) 1 [⟨9, 0, []⟩] (by simp [maxLen]) (fine_of (fun y hy => by
      simp at hy
      subst hy
      exact good_of _ _ _ (by omega) (by omega) (by simp)) (by simp [tlen])) _ (row_one w g hg 9 0 [])
    rw [aw_bad] at this
    exact this.mono fun e w' h => ⟨h.1, ((Below.refl _ w).alloc (Nat.le_refl _) _).trans (h.2.mono (by simp))⟩
  have GB : Hid (∀ (A : Option Addr) (c : Nat) (w : World), CompsAt w A [⟨1, 1, []⟩, ⟨2, 0, [120]⟩, ⟨3, 1, []⟩, ⟨1, 1, []⟩] → Calls Try.prog 14 #[.slice A 4 c] w fun e w' => e = .returned (.int .i64 3) ∧ Below w.heap.size w w') := fun A c w h => by
    have := opBase_any A c _ (by simp [maxLen]) w h
    rw [aw_base] at this
    exact this
  have GU : Hid (∀ (A : Option Addr) (c : Nat) (w : World), CompsAt w A [⟨1, 1, []⟩, ⟨2, 0, [120]⟩, ⟨3, 1, []⟩, ⟨1, 1, []⟩] → Calls Try.prog 16 #[.slice A 4 c] w fun e w' => e = .returned (.int .i64 3) ∧ Below w.heap.size w w') := fun A c w h => by
    have := opOut_any A c _ (by simp [maxLen]) (fine_of (fun y hy => by
      simp at hy
      rcases hy with rfl | rfl | rfl | rfl <;> exact good_of _ _ _ (by omega) (by omega) (by simp)) (by simp [tlen])) w h
    rw [aw_out] at this
    exact this
  have GK0 : Hid (∀ w : World, Calls Try.prog 21 #[.int .i64 0] w fun e w' => (∃ A c, e = .returned (.slice A 0 c)) ∧ Below w.heap.size w w') := fun w => by
    refine (opKeep_any 0 w).mono ?_
    rintro e w' ⟨A, c, h1, _, h3⟩
    rw [keepL, if_pos (by omega)] at h1
    exact ⟨⟨A, c, h1⟩, h3⟩
  have GK4 : Hid (∀ w : World, Calls Try.prog 21 #[.int .i64 4] w fun e w' => (∃ A c, e = .returned (.slice A 1 c) ∧ CompsAt w' A [⟨1, 4, []⟩]) ∧ Below w.heap.size w w') := fun w => by
    refine (opKeep_any 4 w).mono ?_
    rintro e w' ⟨A, c, h1, h2, h3⟩
    rw [keepL, if_neg (by omega)] at h1 h2
    exact ⟨⟨A, c, h1, h2⟩, h3⟩
  have GI : Hid (∀ (A : Option Addr) (c : Nat) (w : World), CompsAt w A [⟨1, 4, []⟩] → Calls Try.prog 19 #[.slice A 1 c] w fun e w' => e = .returned (.bool true) ∧ Below w.heap.size w w') := fun A c w h => by
    have := opIdle_any A c [⟨1, 4, []⟩] (by simp [maxLen]) w h
    rw [show idleB [⟨1, 4, []⟩] = true by rfl] at this
    exact this
  have e97 : (bstr [97]).toList = (({ data := #[97] } : ByteArray)).toList := rfl
  go_enter Try.func8, Try.ntmps8
  go_wp2_with fail
  refine (GN.out _ _ rfl).mono ?_
  rintro e w1 ⟨A1, c1, rfl, hc1, hb1⟩
  have HC1 := Lib.hid hc1
  have HB1 := Lib.hid hb1; clear hb1 hc1
  go_wp2_with fail
  refine (GO1.out _).mono ?_
  rintro e w2 ⟨rfl, hb2⟩
  have HC2 := Lib.hid (HC1.out.below hb2)
  have HB2 : Hid (Below w.heap.size w w2) := HB1.out.trans (hb2.mono HB1.out.size)
  clear hb2
  go_wp2_with fail
  refine (GO2.out _).mono ?_
  rintro e w3 ⟨⟨A3, c3, rfl, hm⟩, hb3⟩
  have HC3 := Lib.hid (HC2.out.below hb3)
  have HM3 := Lib.hid hm
  have HB3 : Hid (Below w.heap.size w w3) := HB2.out.trans (hb3.mono HB2.out.size)
  clear hb3 hm
  obtain ⟨b1, o1, rfl, _⟩ := HC3.out.form (by simp)
  obtain ⟨_, _, x2⟩ := HC3.out.at_ (i := 0) (by simp)
  obtain ⟨_, x1, _⟩ := HC3.out.at_ (i := 1) (by simp)
  simp only [List.getElem_cons_zero, List.getElem_cons_succ, Nat.zero_mul, Nat.add_zero, Nat.one_mul] at x1 x2
  go_wp2_with fail
  refine (GC.out _ _ _ HC3.out).mono ?_
  rintro e w4 ⟨rfl, hb4⟩
  have HM4 := Lib.hid (HM3.out.below hb4)
  have HB4 : Hid (Below w.heap.size w w4) := HB3.out.trans (hb4.mono HB3.out.size)
  clear hb4
  go_wp2_with fail
  refine (GB.out _ _ _ HM4.out).mono ?_
  rintro e w5 ⟨rfl, hb5⟩
  have HM5 := Lib.hid (HM4.out.below hb5)
  have HB5 : Hid (Below w.heap.size w w5) := HB4.out.trans (hb5.mono HB4.out.size)
  clear hb5
  go_wp2_with fail
  refine (GU.out _ _ _ HM5.out).mono ?_
  rintro e w6 ⟨rfl, hb6⟩
  have HB6 : Hid (Below w.heap.size w w6) := HB5.out.trans (hb6.mono HB5.out.size)
  clear hb6
  go_wp2_with fail
  refine (GK0.out _).mono ?_
  rintro e w7 ⟨⟨A7, c7, rfl⟩, hb7⟩
  have HB7 : Hid (Below w.heap.size w w7) := HB6.out.trans (hb7.mono HB6.out.size)
  clear hb7
  go_wp2_with fail
  refine (GK4.out _).mono ?_
  rintro e w8 ⟨⟨A8, c8, rfl, hk⟩, hb8⟩
  have HK8 := Lib.hid hk
  have HB8 : Hid (Below w.heap.size w w8) := HB7.out.trans (hb8.mono HB7.out.size)
  clear hb8 hk
  go_wp2_with fail
  refine (GI.out _ _ _ HK8.out).mono ?_
  rintro e w9 ⟨rfl, hb9⟩
  have HB9 : Hid (Below w.heap.size w w9) := HB8.out.trans (hb9.mono HB8.out.size)
  clear hb9
  go_wp2_with fail
  refine (GC9.out _ _ rfl).mono ?_
  rintro e wa ⟨rfl, hba⟩
  have HBa : Hid (Below w.heap.size w wa) := HB9.out.trans (hba.mono HB9.out.size)
  clear hba
  go_wp2
  go_ret
  exact ⟨rfl, HBa.out⟩
end Go.Proofs.Ytgdojhccdicapaa
