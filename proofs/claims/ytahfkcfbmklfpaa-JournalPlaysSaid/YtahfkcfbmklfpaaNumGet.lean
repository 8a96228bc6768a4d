/- The contract of num.Get: called with any slice of bytes it answers what 'ng' answers of them, and changes nothing. Condition: no slice is longer than memory. -/
import Derived.Test.YtahfkcfbmklfpaaNumFits
import Derived.Test.YtahfkcfbmklfpaaNumRel
import Derived.Test.YtahfkcfbmklfpaaScope
import Derived.Lib.Hide
namespace Go.Proofs.Ytahfkcfbmklfpaa
open Go.RowKit

set_option maxRecDepth 100000 in
theorem numGet_any (b off cap : Nat) (l : List Nat) (hl : l.length ≤ maxLen) (hb : ∀ c ∈ l, c < 256) (w : World) (hc : ∀ j c : Nat, l[j]? = some c → w.cell? ⟨b, off + j, none⟩ = some (.int .u8 (c : Int))) :
    Calls Try.prog 46 #[.slice (some ⟨b, off, none⟩) l.length cap] w fun e w' => e = .returned (.tuple #[.int .i64 (ng 0 0 l).1, .int .i64 (ng 0 0 l).2.1, .int .i64 (ng 0 0 l).2.2]) ∧ w = w' := by
  unfold maxLen at hl
  have HC := Lib.hid hc; clear hc
  have HB := Lib.hid hb; clear hb
  go_enter Try.func46, Try.ntmps46
  go_wp2
  refine wp_scope_fwd ?_
  go_wp2
  go_loop [2, 3, 5, 6, 9] (fun n u i5 c6 i => ∃ k acc : Nat, k ≤ l.length ∧ i = .int .i64 k ∧ n = .int .i64 acc ∧ u = .int .i64 0 ∧ acc ≤ 1099511627776 ∧ Hid (ng 0 0 l = ng acc k (l.drop k))) (fun _ _ _ _ i => l.length - (intOf i).toNat)
  case atStart => exact ⟨0, 0, Nat.zero_le _, rfl, rfl, rfl, by omega, rfl⟩
  case round =>
    obtain ⟨k, acc, hk, rfl, rfl, rfl, ha, HR⟩ := hrel
    by_cases hlt : k < l.length
    · obtain ⟨c, hlc⟩ : ∃ c, l[k]? = some c := ⟨_, List.getElem?_eq_getElem hlt⟩
      have hcell := HC.out k c hlc
      have hc256 := HB.out c (List.mem_of_getElem? hlc)
      have hdrop : l.drop k = c :: l.drop (k + 1) := by
        rw [List.drop_eq_getElem_cons hlt]
        congr 1
        have := List.getElem?_eq_getElem hlt
        rw [hlc] at this
        injection this with this
        exact this.symm
      have HD := Lib.hid hdrop; clear hdrop
      have HL := Lib.hid hlc; clear hlc
      obtain ⟨m, HM⟩ : ∃ m, Hid (m = c % 128) := ⟨_, rfl⟩
      obtain ⟨s, HS⟩ : ∃ s, Hid (s = acc * 128 + m) := ⟨_, rfl⟩
      have hm : m < 128 := by rw [HM.out]; omega
      have eand : bits BinOp.and IntKind.u8 (c : Int) 127 = (m : Int) := by rw [HM.out]; exact band127 c hc256
      have eor : bits BinOp.or IntKind.i64 ((acc : Int) * 128) (m : Int) = (s : Int) := by rw [HS.out]; exact bor7 acc m ha hm
      have hs : s ≤ 140737488355455 := by rw [HS.out]; omega
      by_cases h0 : k = 0 ∧ c = 128
      · obtain ⟨rfl, rfl⟩ := h0
        rw [Nat.add_zero] at hcell
        go_wp2_with fail
        go_step3
        refine ⟨_, rfl, ?_⟩
        go_wp2
        rw [Exit.noGoto_ret]
        go_ret3
        have e : ng 0 0 l = (0, 0, 2) := by rw [HR.out, HD.out, ng, if_pos ⟨rfl, rfl⟩]
        rw [e]
        exact ⟨rfl, rfl⟩
      · have h0' : ¬ k = 0 ∨ (k = 0 ∧ ((c : Int) == 128) = false) := by
          by_cases hk0 : k = 0
          · exact .inr ⟨hk0, by simp; omega⟩
          · exact .inl hk0
        have hbig : s ≤ 1099511627776 ∨ 1099511627776 < s := by omega
        have HB2 := Lib.hid hbig; clear hbig
        have hcell' : k = 0 → w.cell? ⟨b, off, none⟩ = some (.int .u8 (c : Int)) := fun e => by subst e; exact hcell
        have HN := Lib.hid h0; clear h0
        rcases HB2.out with hbig | hbig
        · have hc1 : c < 128 ∨ ¬ c < 128 := by omega
          have HC1 := Lib.hid hc1; clear hc1
          rcases HC1.out with hc1 | hc1
          · have e : Hid (ng 0 0 l = (s, k + 1, 0)) := by
              show ng 0 0 l = (s, k + 1, 0)
              rw [HR.out, HD.out, ng, if_neg HN.out, if_neg (by rw [← HM.out, ← HS.out]; omega), if_pos hc1, ← HM.out, ← HS.out]
            rcases h0' with hk0 | ⟨rfl, hk0⟩
            all_goals try rw [Nat.add_zero] at hcell
            all_goals clear hcell'
            all_goals
              go_wp2_with (go_at_call 55; refine (numFits_yes _ (by omega) (by omega) _).mono ?_; rintro e w' ⟨rfl, rfl⟩)
              go_step3
              refine ⟨_, rfl, ?_⟩
              go_wp2
              rw [Exit.noGoto_ret]
              go_ret3
              rw [e.out]
              exact ⟨rfl, rfl⟩
          · have e : Hid (ng 0 0 l = ng s (k + 1) (l.drop (k + 1))) := by
              show ng 0 0 l = ng s (k + 1) (l.drop (k + 1))
              rw [HR.out, HD.out, ng, if_neg HN.out, if_neg (by rw [← HM.out, ← HS.out]; omega), if_neg hc1, ← HM.out, ← HS.out]
            rcases h0' with hk0 | ⟨rfl, hk0⟩
            all_goals try rw [Nat.add_zero] at hcell
            all_goals clear hcell'
            all_goals
              go_wp2_with (go_at_call 55; refine (numFits_yes _ (by omega) (by omega) _).mono ?_; rintro e w' ⟨rfl, rfl⟩)
              go_round
              case rel => exact ⟨_, s, by omega, by go_num, rfl, rfl, hbig, e⟩
              case measure => simp [intOf]; omega
        · have e : Hid (ng 0 0 l = (0, 0, 2)) := by
            show ng 0 0 l = (0, 0, 2)
            rw [HR.out, HD.out, ng, if_neg HN.out, if_pos (by rw [← HM.out, ← HS.out]; omega)]
          rcases h0' with hk0 | ⟨rfl, hk0⟩
          all_goals try rw [Nat.add_zero] at hcell
          all_goals clear hcell'
          all_goals
            go_wp2_with (go_at_call 55; refine (numFits_no _ (by omega) _).mono ?_; rintro e w' ⟨rfl, rfl⟩)
            go_step3
            refine ⟨_, rfl, ?_⟩
            go_wp2
            rw [Exit.noGoto_ret]
            go_ret3
            rw [e.out]
            exact ⟨rfl, rfl⟩
    · have e : Hid (ng 0 0 l = (0, 0, 2)) := by
        show ng 0 0 l = (0, 0, 2)
        rw [HR.out, List.drop_eq_nil_of_le (by omega)]
        rfl
      go_wp2
      go_step3
      go_wp2
      rw [fwd_ret]
      go_ret3
      rw [e.out]
      exact ⟨rfl, rfl⟩
end Go.Proofs.Ytahfkcfbmklfpaa
