/- The contract of the document's own reader of numbers, ropewalkref1.Get: called with any slice of bytes it answers what 'rg' answers of them, and changes nothing. Condition: no slice is longer than memory. -/
import Derived.Test.YtkhnhlnnfeebmaaRefFits
import Derived.Test.YtkhnhlnnfeebmaaNumGet
namespace Go.Proofs.Ytkhnhlnnfeebmaa
open Go.RowKit

set_option maxRecDepth 100000 in
theorem refGet_any (b off cap : Nat) (l : List Nat) (hl : l.length ≤ maxLen) (hb : ∀ c ∈ l, c < 256) (w : World) (hc : ∀ j c : Nat, l[j]? = some c → w.cell? ⟨b, off + j, none⟩ = some (.int .u8 (c : Int))) :
    Calls Try.prog 8 #[.slice (some ⟨b, off, none⟩) l.length cap] w fun e w' => e = .returned (.tuple #[.int .i64 (rg 0 0 l).1, .int .i64 (rg 0 0 l).2]) ∧ w = w' := by
  unfold maxLen at hl
  have HC := Lib.hid hc; clear hc
  have HB := Lib.hid hb; clear hb
  go_enter Try.func8, Try.ntmps8
  go_wp2
  go_loop [4, 5] (fun n i => ∃ k acc : Nat, k ≤ l.length ∧ k ≤ 6 ∧ i = .int .i64 k ∧ n = .int .i64 acc ∧ acc < 128 ^ k ∧ Hid (rg 0 0 l = rg acc k (l.drop k))) (fun _ i => l.length - (intOf i).toNat)
  case atStart => exact ⟨0, 0, Nat.zero_le _, by omega, rfl, rfl, by omega, rfl⟩
  case round =>
    obtain ⟨k, acc, hk, hk6, rfl, rfl, ha, HR⟩ := hrel
    have HA := Lib.hid ha; clear ha
    by_cases hlt : k < l.length
    · by_cases h6 : k < 6
      · obtain ⟨c, hlc⟩ : ∃ c, l[k]? = some c := ⟨_, List.getElem?_eq_getElem hlt⟩
        have hcell := HC.out k c hlc
        have hc256 := HB.out c (List.mem_of_getElem? hlc)
        have hdrop : l.drop k = c :: l.drop (k + 1) := by
          rw [List.drop_eq_getElem_cons hlt]
          congr 1
          have := List.getElem?_eq_getElem hlt
          rw [hlc] at this
          injection this with this
          exact this.symm
        have HD := Lib.hid hdrop; clear hdrop
        have HL := Lib.hid hlc; clear hlc
        have hpow : 128 ^ k ≤ 128 ^ 5 := Nat.pow_le_pow_right (by omega) (by omega)
        have ha : acc < 34359738368 := Nat.lt_of_lt_of_le HA.out hpow
        clear hpow
        obtain ⟨m, HM⟩ : ∃ m, Hid (m = c % 128) := ⟨_, rfl⟩
        obtain ⟨s, HS⟩ : ∃ s, Hid (s = acc * 128 + m) := ⟨_, rfl⟩
        have hm : m < 128 := by rw [HM.out]; omega
        have eand : bits BinOp.and IntKind.u8 (c : Int) 127 = (m : Int) := by rw [HM.out]; exact band127 c hc256
        have eor : bits BinOp.or IntKind.i64 ((acc : Int) * 128) (m : Int) = (s : Int) := by rw [HS.out]; exact bor7 acc m (by omega) hm
        have hs : s ≤ 140737488355455 := by rw [HS.out]; omega
        have HP : Hid (s < 128 ^ (k + 1)) := by
          show s < 128 ^ (k + 1)
          rw [HS.out, Nat.pow_succ]
          have := HA.out
          omega
        by_cases h0 : k = 0 ∧ c = 128
        · obtain ⟨rfl, rfl⟩ := h0
          rw [Nat.add_zero] at hcell
          have e : Hid (rg 0 0 l = (0, 0)) := by
            show rg 0 0 l = (0, 0)
            rw [HR.out, HD.out, rg, if_neg (by omega), if_pos ⟨rfl, rfl⟩]
          go_wp2_with fail
          go_ret2
          rw [e.out]
          exact ⟨rfl, rfl⟩
        · have h0' : ¬ k = 0 ∨ (k = 0 ∧ ((c : Int) == 128) = false) := by
            by_cases hk0 : k = 0
            · exact .inr ⟨hk0, by simp; omega⟩
            · exact .inl hk0
          have HN := Lib.hid h0; clear h0
          by_cases hc1 : c < 128
          · by_cases hbig : s ≤ 1099511627776
            · have e : Hid (rg 0 0 l = (s, k + 1)) := by
                show rg 0 0 l = (s, k + 1)
                rw [HR.out, HD.out, rg, if_neg (by omega), if_neg HN.out, if_pos hc1, if_neg (by rw [← HM.out, ← HS.out]; omega), ← HM.out, ← HS.out]
              rcases h0' with hk0 | ⟨rfl, hk0⟩
              all_goals try rw [Nat.add_zero] at hcell
              all_goals
                go_wp2_with (go_at_call 13; refine (refFits_yes _ (by omega) (by omega) _).mono ?_; rintro e w' ⟨rfl, rfl⟩)
                go_ret2
                rw [e.out]
                exact ⟨rfl, rfl⟩
            · have e : Hid (rg 0 0 l = (0, 0)) := by
                show rg 0 0 l = (0, 0)
                rw [HR.out, HD.out, rg, if_neg (by omega), if_neg HN.out, if_pos hc1, if_pos (by rw [← HM.out, ← HS.out]; omega)]
              rcases h0' with hk0 | ⟨rfl, hk0⟩
              all_goals try rw [Nat.add_zero] at hcell
              all_goals
                go_wp2_with (go_at_call 13; refine (refFits_no _ (by omega) _).mono ?_; rintro e w' ⟨rfl, rfl⟩)
                go_ret2
                rw [e.out]
                exact ⟨rfl, rfl⟩
          · have e : Hid (rg 0 0 l = rg s (k + 1) (l.drop (k + 1))) := by
              show rg 0 0 l = rg s (k + 1) (l.drop (k + 1))
              rw [HR.out, HD.out, rg, if_neg (by omega), if_neg HN.out, if_neg hc1, ← HM.out, ← HS.out]
            rcases h0' with hk0 | ⟨rfl, hk0⟩
            all_goals try rw [Nat.add_zero] at hcell
            all_goals
              go_wp2_with fail
              go_round
              case rel => exact ⟨_, s, by omega, by omega, by go_num, rfl, HP.out, e⟩
              case measure => simp [intOf]; omega
      · have e : Hid (rg 0 0 l = (0, 0)) := by
          show rg 0 0 l = (0, 0)
          rw [HR.out, rg_six _ _ _ (by omega)]
        go_wp2
        go_ret2
        rw [e.out]
        exact ⟨rfl, rfl⟩
    · have e : Hid (rg 0 0 l = (0, 0)) := by
        show rg 0 0 l = (0, 0)
        rw [HR.out, List.drop_eq_nil_of_le (by omega)]
        rfl
      go_wp2
      go_ret2
      rw [e.out]
      exact ⟨rfl, rfl⟩
end Go.Proofs.Ytkhnhlnnfeebmaa
