/- The contract of num.Fits: called with any int it answers whether that lies from 0 to 2^40, and changes nothing. No condition. -/
import Derived.Test.YtahfkcfbmklfpaaRows
import Derived.WalkKit
namespace Go.Proofs.Ytahfkcfbmklfpaa
open Go.RowKit

theorem numFits_yes (n : Int) (h0 : 0 ≤ n) (h1 : n ≤ 1099511627776) (w : World) :
    Calls Try.prog 55 #[.int .i64 n] w fun e w' => e = .returned (.bool true) ∧ w = w' := by
  go_enter Try.func55, Try.ntmps55
  go_wp2
  go_ret
  exact ⟨by simp [*], rfl⟩

theorem numFits_no (n : Int) (h : n < 0 ∨ 1099511627776 < n) (w : World) :
    Calls Try.prog 55 #[.int .i64 n] w fun e w' => e = .returned (.bool false) ∧ w = w' := by
  rcases h with h | h
  · go_enter Try.func55, Try.ntmps55
    go_wp2
    go_ret
    exact ⟨by simp [*], rfl⟩
  · have h' : 0 ≤ n := by omega
    go_enter Try.func55, Try.ntmps55
    go_wp2
    go_ret
    exact ⟨by simp [*], rfl⟩
end Go.Proofs.Ytahfkcfbmklfpaa
