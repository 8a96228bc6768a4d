/- The contracts of the document's own Offset, Slice, over texts, within. Condition: no more than 2^40 bytes. -/
import Derived.Test.YtfbkdabnbddgpaaRefPoint
namespace Go.Proofs.Ytfbkdabnbddgpaa
open Go.RowKit Go.Deep

set_option maxRecDepth 100000 in
theorem refOffset_yes {l vs : List Nat} (h : V l vs) (hl : l.length ≤ 1099511627776) (n : Nat) (hn : n ≤ vs.length) (w : World) :
    Calls Try.prog 54 #[.string (bstr l), .int .i64 (n : Int)] w fun e w' => e = .returned (.int .i64 (((E (vs.take n)).length : Nat) : Int)) ∧ w = w' := by
  have HP := Lib.hid (fun i hi w => refPoint_any l (by rw [← h.bytes]; exact E_lt h.may) hl i hi w)
  have hsz := bstr_size l
  have HL : Hid (vs.length ≤ 1099511627776) := by show vs.length ≤ _; have := h.length_le; omega
  have hl2 := HL.out
  have H := Lib.hid h; clear h
  go_enter Try.func54, Try.ntmps54
  go_wp2
  go_loopw [1, 5] (fun m at_ wr => ∃ j i : Nat, j ≤ n ∧ i = (E (vs.take j)).length ∧ m = .int .i64 ((n - j : Nat) : Int) ∧ at_ = .int .i64 (i : Int) ∧ wr = w) (fun m _ _ => (intOf m).toNat)
  case atStart => exact ⟨0, 0, Nat.zero_le _, by rw [List.take_zero, E_nil]; rfl, rfl, rfl, rfl⟩
  case round =>
    obtain ⟨j, i, hj, hi, rfl, rfl, rfl⟩ := hrel
    have HI := Lib.hid hi; clear hi
    obtain ⟨m, HM⟩ : ∃ m, Hid (m = n - j) := ⟨_, rfl⟩
    rw [← HM.out]
    have hmn : m ≤ n := by rw [HM.out]; omega
    by_cases hlt : j < n
    · have hjv : j < vs.length := by omega
      obtain ⟨v, HV⟩ : ∃ v, Hid (v = vs[j]) := ⟨vs[j], Lib.hid rfl⟩
      have HMAY : Hid (May v) := by show May v; rw [HV.out]; exact H.out.may _ (List.getElem_mem hjv)
      have HT : Hid (vs.take (j + 1) = vs.take j ++ [v]) := by show _ = _; rw [List.take_succ_eq_append_getElem hjv, HV.out]
      have HL2 : Hid (l = E (vs.take j) ++ (enc v ++ E (vs.drop (j + 1)))) := by
        show l = _
        rw [← List.append_assoc, ← E_snoc, ← HT.out, ← E_append, List.take_append_drop, H.out.bytes]
      have HDR : Hid (l.drop i = enc v ++ E (vs.drop (j + 1))) := by show _ = _; rw [HI.out, HL2.out, List.drop_left' rfl]
      have hp := enc_pos v
      have hle := enc_le v
      obtain ⟨q, HQ⟩ : ∃ q, Hid (q = (enc v).length) := ⟨_, rfl⟩
      have HIL : Hid (i + q ≤ l.length) := by
        show i + q ≤ l.length
        have h1 := congrArg List.length HL2.out
        rw [List.length_append, List.length_append, ← HI.out, ← HQ.out] at h1
        omega
      have hil := HIL.out
      rw [← HQ.out] at hp hle
      have hi2 : i < l.length := by omega
      have hm1 : 0 < m := by rw [HM.out]; omega
      have HP1 := Lib.hid (fun w => HP.out i hi2 w)
      rw [HDR.out] at HP1
      have HST := Lib.hid (st_enc HMAY.out (E (vs.drop (j + 1))))
      have hmax : max (q : Int) 1 = (q : Int) := by omega
      go_wp2_with fail
      refine (HP1.out _).mono ?_
      rintro e w1 ⟨⟨v', t, hst, rfl⟩ | ⟨hst, _⟩, rfl⟩
      · rw [HST.out] at hst
        injection hst with hst
        injection hst with h1 h2
        subst h1
        clear h2
        rw [← HQ.out]
        go_wp2
        go_roundw
        case rel => exact ⟨j + 1, i + q, by omega, by rw [HT.out, E_snoc, List.length_append, ← HI.out, ← HQ.out], by congr 1; have := HM.out; omega, by go_num, trivial⟩
        case measure => simp [intOf]; omega
      · rw [HST.out] at hst
        cases hst
    · have hm0 : m = 0 := by rw [HM.out]; omega
      have hjn : j = n := by omega
      subst hjn
      subst hm0
      go_wp2
      go_ret
      exact ⟨by rw [← HI.out]; rfl, rfl⟩

theorem refSlice_yes {l vs : List Nat} (h : V l vs) (hl : l.length ≤ 1099511627776) (a b : Nat) (hab : a ≤ b) (hb : b ≤ vs.length) (w : World) :
    Calls Try.prog 32 #[.string (bstr l), .int .i64 (a : Int), .int .i64 (b : Int)] w fun e w' => e = .returned (.string (bstr (E ((vs.take b).drop a)))) ∧ w = w' := by
  have G1 := Lib.hid (fun w => refOffset_yes h hl a (by omega) w)
  have G2 := Lib.hid (fun w => refOffset_yes h hl b hb w)
  have h1 : (E (vs.take a)).length ≤ (E (vs.take b)).length := E_len_take vs a b hab
  have h2 : (E (vs.take b)).length ≤ l.length := by
    have := E_len_take vs b vs.length hb
    rw [List.take_length, h.bytes] at this
    exact this
  have hs := slice_bstr l _ _ h1 h2
  rw [← h.bytes, E_piece vs a b hab, h.bytes] at hs
  obtain ⟨p, HP⟩ : ∃ p, Hid ((E (vs.take a)).length = p) := ⟨_, rfl⟩
  obtain ⟨q, HQ⟩ : ∃ q, Hid ((E (vs.take b)).length = q) := ⟨_, rfl⟩
  rw [HP.out] at G1 hs h1
  rw [HQ.out] at G2 hs h2 h1
  clear h
  go_enter Try.func32, Try.ntmps32
  go_wp2_with fail
  refine (G1.out _).mono ?_
  rintro e w1 ⟨rfl, rfl⟩
  go_wp2_with fail
  refine (G2.out _).mono ?_
  rintro e w1 ⟨rfl, rfl⟩
  go_wp2
  go_ret
  exact ⟨rfl, rfl⟩
end Go.Proofs.Ytfbkdabnbddgpaa
