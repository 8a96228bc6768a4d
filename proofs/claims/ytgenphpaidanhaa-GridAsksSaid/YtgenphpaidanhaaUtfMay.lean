/- The contract of utf.may: of any int it tells whether a text may have it. No condition. -/
import Derived.Test.YtgenphpaidanhaaUtfMath
namespace Go.Proofs.Ytgenphpaidanhaa
open Go.RowKit

set_option maxRecDepth 100000 in
theorem utfMay_yes (n : Int) (h : 0 < n ∧ n ≤ 1114111 ∧ (n < 55296 ∨ 57343 < n)) (w : World) :
    Calls Try.prog 36 #[.int .i64 n] w fun e w' => e = .returned (.bool true) ∧ w = w' := by
  obtain ⟨h1, h2, h3⟩ := h
  have H3 := Lib.hid h3; clear h3
  by_cases hs : (55296 ≤ n)
  · have hs2 : ¬ n ≤ 57343 := by have := H3.out; omega
    go_enter Try.func36, Try.ntmps36
    go_wp2
    go_ret
    exact ⟨rfl, rfl⟩
  · go_enter Try.func36, Try.ntmps36
    go_wp2
    go_ret
    exact ⟨rfl, rfl⟩
set_option maxRecDepth 100000 in
theorem utfMay_no (n : Int) (h : n ≤ 0 ∨ 1114111 < n ∨ (55296 ≤ n ∧ n ≤ 57343)) (w : World) :
    Calls Try.prog 36 #[.int .i64 n] w fun e w' => e = .returned (.bool false) ∧ w = w' := by
  have H3 := Lib.hid h; clear h
  by_cases h1 : 0 < n
  · by_cases h2 : n ≤ 1114111
    · have hs : 55296 ≤ n := by have := H3.out; omega
      have hs2 : n ≤ 57343 := by have := H3.out; omega
      go_enter Try.func36, Try.ntmps36
      go_wp2
      go_ret
      exact ⟨rfl, rfl⟩
    · have hs : 55296 ≤ n := by omega
      have hs2 : ¬ n ≤ 57343 := by omega
      go_enter Try.func36, Try.ntmps36
      go_wp2
      go_ret
      exact ⟨rfl, rfl⟩
  · have hs : ¬ 55296 ≤ n := by omega
    go_enter Try.func36, Try.ntmps36
    go_wp2
    go_ret
    exact ⟨rfl, rfl⟩
theorem utfMay_may {v : Nat} (h : May v) (w : World) : Calls Try.prog 36 #[.int .i64 (v : Int)] w fun e w' => e = .returned (.bool true) ∧ w = w' :=
  utfMay_yes v (by obtain ⟨h1, h2, h3⟩ := h; omega) w
theorem utfMay_not {v : Nat} (h : ¬ May v) (w : World) : Calls Try.prog 36 #[.int .i64 (v : Int)] w fun e w' => e = .returned (.bool false) ∧ w = w' :=
  utfMay_no v (by unfold May at h; omega) w
end Go.Proofs.Ytgenphpaidanhaa
