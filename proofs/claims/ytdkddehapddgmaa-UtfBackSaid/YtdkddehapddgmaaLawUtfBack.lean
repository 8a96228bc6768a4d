/- The walk of the law UtfBack: whatever text, place and ints it is called with, it answers true; what was there stays as it was. Condition: no text and no slice is longer than memory. -/
import Derived.Test.YtdkddehapddgmaaUtfStr
import Derived.Test.YtdkddehapddgmaaRound
namespace Go.Proofs.Ytdkddehapddgmaa
open Go.RowKit Go.Deep

theorem utfBack_long (l : List Nat) (h : 500 < l.length) (hl : l.length ≤ maxLen) (a : Int) (A : Option Addr) (n c : Nat) (w : World) :
    Calls Try.prog 4 #[.string (bstr l), .int .i64 a, .slice A n c] w fun e w' => e = .returned (.bool true) ∧ Below w.heap.size w w' := by
  have hsz := bstr_size l
  simp only [maxLen] at hl
  go_enter Try.func4, Try.ntmps4
  go_wp2_with fail
  refine (utfAwake_any _).mono ?_
  rintro e w2 ⟨rfl, hb2⟩
  go_wp2
  go_ret
  exact ⟨rfl, hb2⟩
theorem utfBack_many (l : List Nat) (h : ¬ 500 < l.length) (a : Int) (A : Option Addr) (n c : Nat) (hn : 200 < n) (hm : n ≤ maxLen) (w : World) :
    Calls Try.prog 4 #[.string (bstr l), .int .i64 a, .slice A n c] w fun e w' => e = .returned (.bool true) ∧ Below w.heap.size w w' := by
  have hsz := bstr_size l
  simp only [maxLen] at hm
  go_enter Try.func4, Try.ntmps4
  go_wp2_with fail
  refine (utfAwake_any _).mono ?_
  rintro e w2 ⟨rfl, hb2⟩
  go_wp2
  go_ret
  exact ⟨rfl, hb2⟩

/-- What both writers tell of the same ints. -/
def BothTexts (A : Option Addr) (z : List Int) (c : Nat) (S : ByteArray) (e1 : Int) (ok : Bool) : Prop :=
  (e1 = 0 ∧ ok = true ∨ e1 = 2 ∧ ok = false) ∧ (∀ w, IntsAt w A z → Calls Try.prog 17 #[.slice A z.length c] w fun e w' => e = .returned (.tuple #[.string S, .int .i64 e1]) ∧ Below w.heap.size w w') ∧
    ∀ w, IntsAt w A z → Calls Try.prog 18 #[.slice A z.length c] w fun e w' => e = .returned (.tuple #[.string S, .bool ok]) ∧ Below w.heap.size w w'
theorem bothTexts (A : Option Addr) (z : List Int) (c : Nat) (hz : z.length ≤ 1073741824) : ∃ S e1 ok, BothTexts A z c S e1 ok := by
  by_cases hv : ∃ vs, VZ z vs
  · obtain ⟨vs, hv⟩ := hv
    refine ⟨bstr (E vs), 0, true, .inl ⟨rfl, rfl⟩, fun w hA => (utfText_any c hz w hA).mono ?_, fun w hA => (refText_any c hz w hA).mono ?_⟩
    all_goals
      rintro e w' ⟨⟨ws, hw, he⟩ | ⟨hn, _⟩, hb⟩
      · rw [← hv.uniq hw] at he
        exact ⟨he, hb⟩
      · exact absurd ⟨vs, hv⟩ hn
  · refine ⟨bstr [], 2, false, .inr ⟨rfl, rfl⟩, fun w hA => (utfText_any c hz w hA).mono ?_, fun w hA => (refText_any c hz w hA).mono ?_⟩
    all_goals
      rintro e w' ⟨⟨ws, hw, _⟩ | ⟨_, he⟩, hb⟩
      · exact absurd ⟨ws, hw⟩ hv
      · exact ⟨he, hb⟩

set_option maxHeartbeats 1000000 in
set_option maxRecDepth 100000 in
theorem utfBack_no (l : List Nat) (hl : l.length ≤ 500) (hb : ∀ x ∈ l, x < 256) (h : ¬ ∃ vs, V l vs) (a : Int) (A : Option Addr) (z : List Int) (c : Nat) (hz : z.length ≤ 200) (w : World) (hA : IntsAt w A z) :
    Calls Try.prog 4 #[.string (bstr l), .int .i64 a, .slice A z.length c] w fun e w' => e = .returned (.bool true) ∧ Below w.heap.size w w' := by
  have hsz := bstr_size l
  obtain ⟨S, e1, ok, hc, hg1, hg2⟩ := bothTexts A z c (by omega)
  have GT := Lib.hid hg1; clear hg1
  have GR := Lib.hid hg2; clear hg2
  have G6 := Lib.hid (fun w => utfValid_no h hb (by omega) w)
  have HA := Lib.hid hA; clear hA h hb
  have hss : (S.toList == S.toList) = true := beq_self_eq_true _
  rcases hc with ⟨rfl, rfl⟩ | ⟨rfl, rfl⟩
  all_goals
    go_enter Try.func4, Try.ntmps4
    go_wp2_with fail
    refine (GT.out _ HA.out).mono ?_
    rintro e w1 ⟨rfl, hb1⟩
    have HB1 := Lib.hid hb1; clear hb1
    go_wp2_with fail
    refine (GR.out _ (HA.out.below HB1.out)).mono ?_
    rintro e w2 ⟨rfl, hb2⟩
    have HB2 := Lib.hid hb2; clear hb2
    go_wp2_with fail
    refine (G6.out _).mono ?_
    rintro e w3 ⟨rfl, rfl⟩
    go_wp2_with fail
    refine (utfAwake_any _).mono ?_
    rintro e w3 ⟨rfl, hb3⟩
    go_wp2
    go_ret
    exact ⟨rfl, bstep (bstep HB1.out HB2.out) hb3⟩

set_option maxHeartbeats 2000000 in
set_option maxRecDepth 100000 in
theorem utfBack_yes (l vs : List Nat) (hl : l.length ≤ 500) (h : V l vs) (a : Int) (A : Option Addr) (z : List Int) (c : Nat) (hz : z.length ≤ 200) (w : World) (hA : IntsAt w A z) :
    Calls Try.prog 4 #[.string (bstr l), .int .i64 a, .slice A z.length c] w fun e w' => e = .returned (.bool true) ∧ Below w.heap.size w w' := by
  have hsz := bstr_size l
  obtain ⟨S, e1, ok, hc, hg1, hg2⟩ := bothTexts A z c (by omega)
  have GT := Lib.hid hg1; clear hg1
  have GR := Lib.hid hg2; clear hg2
  have HA := Lib.hid hA; clear hA
  have hss : (S.toList == S.toList) = true := beq_self_eq_true _
  have hv500 : vs.length ≤ 500 := by have := h.length_le; omega
  have hvz : VZ (nz vs) vs := ⟨h.may, rfl⟩
  have G6 := Lib.hid (fun w => utfValid_yes h (by omega) w)
  have G3 := Lib.hid (fun w => utfPoints_yes h (by omega) w)
  have GX : Hid (∀ (w : World) (B : Option Addr) (d : Nat), IntsAt w B (nz vs) → Calls Try.prog 17 #[.slice B (nz vs).length d] w fun e w' => e = .returned (.tuple #[.string (bstr l), .int .i64 0]) ∧ Below w.heap.size w w') := by
    intro w B d hB
    refine (utfText_any d (by rw [nz_length]; omega) w hB).mono ?_
    rintro e w' ⟨⟨ws, hw, he⟩ | ⟨hn, _⟩, hb⟩
    · rw [← hvz.uniq hw, h.bytes] at he
      exact ⟨he, hb⟩
    · exact absurd ⟨vs, hvz⟩ hn
  have G2 := Lib.hid (fun w => utfCount_yes h (by omega) w)
  obtain ⟨m, HM⟩ : ∃ m, Hid (m = vs.length) := ⟨_, rfl⟩
  obtain ⟨k, HK⟩ : ∃ k, Hid (k = rnd a (m + 1)) := ⟨_, rfl⟩
  have GRD := Lib.hid (fun w => alikeRound_any a (m + 1) (by omega) (by rw [HM.out]; omega) w)
  have hk : k ≤ m := by have := rnd_lt a (n := m + 1) (by omega); rw [← HK.out] at this; omega
  have hkv : k ≤ vs.length := by rw [← HM.out]; exact hk
  have G4 := Lib.hid (fun w => utfSlice_yes h (by omega) 0 k (by omega) hkv w)
  have G4b := Lib.hid (fun w => utfSlice_yes h (by omega) k vs.length hkv (Nat.le_refl _) w)
  have G5 := Lib.hid (fun w => utfOffset_yes h (by omega) k hkv w)
  rw [List.drop_zero] at G4
  rw [List.take_length] at G4b
  have hadd : ∀ w, (Op.stringOp .add (bstr (E (vs.take k))) (bstr (E (vs.drop k)))).run Try.prog w = .ok (.string (bstr l)) w := by
    intro w
    have h1 := E_length_le4 (vs.take k)
    have h2 := E_length_le4 (vs.drop k)
    rw [List.length_take] at h1
    rw [List.length_drop] at h2
    rw [add_bstr _ _ (by omega) (by omega), ← E_append, List.take_append_drop, h.bytes]
  have hsz2 := bstr_size (E (vs.take k))
  have hv5 : m ≤ 500 := by rw [HM.out]; exact hv500
  rw [← HM.out] at G2 G4b
  rw [← HK.out] at GRD
  obtain ⟨q, HQ⟩ : ∃ q, Hid ((E (vs.take k)).length = q) := ⟨_, rfl⟩
  have hq4 : q ≤ 2000 := by
    rw [← HQ.out]
    have h1 := E_length_le4 (vs.take k)
    rw [List.length_take] at h1
    omega
  rw [HQ.out] at G5 hsz2
  obtain ⟨S1, HS1⟩ : ∃ S, Hid (bstr (E (vs.take k)) = S) := ⟨_, rfl⟩
  obtain ⟨S2, HS2⟩ : ∃ S, Hid (bstr (E (vs.drop k)) = S) := ⟨_, rfl⟩
  obtain ⟨S0, HS0⟩ : ∃ S, Hid (bstr l = S) := ⟨_, rfl⟩
  obtain ⟨Z, HZ⟩ : ∃ Z, Hid (nz vs = Z) := ⟨_, rfl⟩
  have hZ5 : Z.length ≤ 500 := by rw [← HZ.out, nz_length]; exact hv500
  rw [HS1.out] at G4 hadd hsz2
  rw [HS2.out] at G4b hadd
  rw [HS0.out] at hadd hsz G2 G3 G4 G4b G5 G6 GX ⊢
  rw [HZ.out] at G3 GX
  have hqq : ((q : Int) == (q : Int)) = true := beq_self_eq_true _
  have hss0 : (S0.toList == S0.toList) = true := beq_self_eq_true _
  clear h hvz hv500 hkv
  rcases hc with ⟨rfl, rfl⟩ | ⟨rfl, rfl⟩
  all_goals
    go_enter Try.func4, Try.ntmps4
    go_wp2_with fail
    refine (GT.out _ HA.out).mono ?_
    rintro e w1 ⟨rfl, hb1⟩
    have HB1 := Lib.hid hb1; clear hb1
    go_wp2_with fail
    refine (GR.out _ (HA.out.below HB1.out)).mono ?_
    rintro e w2 ⟨rfl, hb2⟩
    have HB2 := Lib.hid hb2; clear hb2
    go_wp2_with fail
    refine (G6.out _).mono ?_
    rintro e w3 ⟨rfl, rfl⟩
    go_wp2_with fail
    refine (G3.out _).mono ?_
    rintro e w3 ⟨A3, c3, rfl, _, _, hat3, hb3⟩
    have HAT3 := Lib.hid hat3; clear hat3
    have HB3 := Lib.hid hb3; clear hb3
    go_wp2_with fail
    refine (GX.out _ _ _ HAT3.out).mono ?_
    rintro e w4 ⟨rfl, hb4⟩
    have HB4 := Lib.hid hb4; clear hb4
    go_wp2_with fail
    refine (G2.out _).mono ?_
    rintro e w5 ⟨rfl, hb5⟩
    have HB5 := Lib.hid hb5; clear hb5
    go_wp2_with fail
    refine (GRD.out _).mono ?_
    rintro e w6 ⟨rfl, rfl⟩
    go_wp2_with fail
    refine (G4.out _).mono ?_
    rintro e w6 ⟨rfl, hb6⟩
    have HB6 := Lib.hid hb6; clear hb6
    go_wp2_with fail
    refine (G4b.out _).mono ?_
    rintro e w7 ⟨rfl, hb7⟩
    have HB7 := Lib.hid hb7; clear hb7
    go_wp2_with fail
    refine (G5.out _).mono ?_
    rintro e w8 ⟨rfl, hb8⟩
    have HB8 := Lib.hid hb8; clear hb8
    go_wp2_with fail
    refine (utfAwake_any _).mono ?_
    rintro e w9 ⟨rfl, hb9⟩
    go_wp2
    go_ret
    exact ⟨rfl, bstep (bstep (bstep (bstep (bstep (bstep (bstep (bstep HB1.out HB2.out) HB3.out) HB4.out) HB5.out) HB6.out) HB7.out) HB8.out) hb9⟩

theorem utfBack_any (l : List Nat) (hb : ∀ x ∈ l, x < 256) (hl : l.length ≤ maxLen) (a : Int) {A : Option Addr} (z : List Int) (c : Nat) (hz : z.length ≤ maxLen) (w : World) (hA : IntsAt w A z) :
    Calls Try.prog 4 #[.string (bstr l), .int .i64 a, .slice A z.length c] w fun e w' => e = .returned (.bool true) ∧ Below w.heap.size w w' := by
  by_cases h500 : 500 < l.length
  · exact utfBack_long l h500 hl a A _ c w
  by_cases h200 : 200 < z.length
  · exact utfBack_many l h500 a A _ c h200 hz w
  by_cases hv : ∃ vs, V l vs
  · obtain ⟨vs, hv⟩ := hv
    exact utfBack_yes l vs (by omega) hv a A z c (by omega) w hA
  · exact utfBack_no l (by omega) hb hv a A z c (by omega) w hA
end Go.Proofs.Ytdkddehapddgmaa
