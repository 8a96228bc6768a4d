/- The contract of alike.Sum, which the statements lean on. Condition: its numbers are not negative. -/
import Derived.Test.YtgenphpaidanhaaRound
namespace Go.Proofs.Ytgenphpaidanhaa
open Go.RowKit Go.Deep

/-! ### Sums that are held at a limit -/
def capSum : Nat → List Nat → Nat
  | n, [] => n
  | n, x :: xs => if 1099511627776 < n + x then 1099511627776 else capSum (n + x) xs
theorem capSum_drop (n : Nat) (xs : List Nat) (k : Nat) (h : k < xs.length) : capSum n (xs.drop k) = if 1099511627776 < n + xs[k] then 1099511627776 else capSum (n + xs[k]) (xs.drop (k + 1)) := by
  rw [List.drop_eq_getElem_cons h]
  rfl
theorem ints_two (w : World) (t : TypeId) (a c : Nat) : ∀ j x : Nat, [a, c][j]? = some x → (w.alloc (.cells #[.int .i64 (a : Int), .int .i64 (c : Int)] t)).cell? ⟨w.heap.size, 0 + j, none⟩ = some (.int .i64 (x : Int)) := by
  intro j x hx
  rw [Nat.zero_add, cell_of_row _ _ _ _ t (0, 0) (heap_alloc_new w _)]
  match j, hx with
  | 0, hx => cases hx; rfl
  | 1, hx => cases hx; rfl
/-- The integers that lie at a place. -/
def NatsAt (w : World) (b off : Nat) (xs : List Nat) : Prop := ∀ j x : Nat, xs[j]? = some x → w.cell? ⟨b, off + j, none⟩ = some (.int .i64 (x : Int))
theorem NatsAt.drew {w : World} {b off : Nat} {xs : List Nat} (h : NatsAt w b off xs) : NatsAt w.drew b off xs := h

set_option maxRecDepth 100000 in
theorem alikeSum_row (n : Nat) (hn : n ≤ 9223372036854775807) (b off cap : Nat) (xs : List Nat) (hl : xs.length ≤ maxLen) (hx : ∀ x ∈ xs, x ≤ 9223372036854775807) (w : World) (hc : NatsAt w b off xs) :
    Calls Try.prog 26 #[.int .i64 (n : Int), .slice (some ⟨b, off, none⟩) xs.length cap] w fun e w' => e = .returned (.int .i64 ((capSum n xs : Nat) : Int)) ∧ w = w' := by
  unfold maxLen at hl
  have HC := Lib.hid hc; clear hc
  have HX := Lib.hid hx; clear hx
  have HN := Lib.hid hn; clear hn
  go_enter Try.func26, Try.ntmps26
  go_wp2
  go_loop [0, 5] (fun t i => ∃ k m : Nat, k ≤ xs.length ∧ i = .int .i64 k ∧ t = .int .i64 (m : Int) ∧ m ≤ 9223372036854775807 ∧ capSum m (xs.drop k) = capSum n xs) (fun _ i => xs.length - (intOf i).toNat)
  case atStart => exact ⟨0, n, Nat.zero_le _, rfl, rfl, HN.out, rfl⟩
  case round =>
    obtain ⟨k, m, hk, rfl, rfl, hm, he⟩ := hrel
    have HE := Lib.hid he; clear he
    by_cases hlt : k < xs.length
    · have hcell := HC.out k _ (List.getElem?_eq_getElem hlt)
      have hxk := HX.out _ (List.getElem_mem hlt)
      have hd := capSum_drop m xs k hlt
      rw [HE.out] at hd
      have HD := Lib.hid hd; clear hd
      obtain ⟨x, HXX⟩ : ∃ x, Hid (xs[k] = x) := ⟨xs[k], Lib.hid rfl⟩
      rw [HXX.out] at hcell hxk HD
      by_cases hb : 1099511627776 < m + x
      · have HR : Hid (capSum n xs = 1099511627776) := by show capSum n xs = 1099511627776; rw [HD.out, if_pos hb]
        by_cases h1 : 1099511627776 < m
        · go_wp2
          go_ret
          exact ⟨by rw [HR.out]; rfl, rfl⟩
        · have h1' : m ≤ 1099511627776 := by omega
          go_wp2
          go_ret
          exact ⟨by rw [HR.out]; rfl, rfl⟩
      · have h1' : m ≤ 1099511627776 := by omega
        have HR : Hid (capSum (m + x) (xs.drop (k + 1)) = capSum n xs) := by show capSum (m + x) (xs.drop (k + 1)) = capSum n xs; rw [HD.out, if_neg hb]
        go_wp2
        go_round
        case rel => exact ⟨k + 1, m + x, by omega, by go_num, by go_num, by omega, HR.out⟩
        case measure => simp [intOf]; omega
    · have HR : Hid (m = capSum n xs) := by
        show m = capSum n xs
        rw [← HE.out, List.drop_eq_nil_of_le (by omega)]
        rfl
      go_wp2
      go_ret
      exact ⟨by rw [← HR.out]; rfl, rfl⟩
end Go.Proofs.Ytgenphpaidanhaa
