/- The contract of alike.Bytes: called with any slice of slices of bytes it answers their weight, held at a limit; what was there stays as it was. Condition: the limit is no more than 2^62. -/
import Derived.Test.YtgjnjnfodomldaaAlike
import Derived.Test.YtgjnjnfodomldaaLists
namespace Go.Proofs.Ytgjnjnfodomldaa
open Go.RowKit Go.Deep

/-- alike.Bytes. -/
def weight (limit : Nat) : Nat → List (Option Addr × Nat × List Nat) → Nat
  | n, [] => n
  | n, x :: L => if n ≤ limit then weight limit (capSum n [x.2.2.length, 1]) L else n
theorem capSum_le (n : Nat) (hn : n ≤ 1099511627776) (xs : List Nat) : capSum n xs ≤ 1099511627776 := by
  induction xs generalizing n with
  | nil => exact hn
  | cons x xs ih =>
    rw [capSum]
    split
    · exact Nat.le_refl _
    · exact ih _ (by omega)
theorem capSum_two (n a : Nat) (h : capSum n [a, 1] < 1099511627776) : capSum n [a, 1] = n + a + 1 := by
  rw [capSum] at h ⊢
  split at h
  · omega
  · rename_i h1
    rw [if_neg h1]
    rw [capSum] at h ⊢
    split at h
    · omega
    · rename_i h2
      rw [if_neg h2]
      rfl
theorem flat_cons (x : Option Addr × Nat × List Nat) (L : List (Option Addr × Nat × List Nat)) : flat (x :: L) = x.2.2 ++ flat L := by simp [flat]
theorem weight_spec (limit : Nat) (hl : limit < 1099511627776) (L : List (Option Addr × Nat × List Nat)) : ∀ n, weight limit n L ≤ limit → weight limit n L = n + (flat L).length + L.length := by
  induction L with
  | nil => intro n _; simp [weight, flat_nil]
  | cons x L ih =>
    intro n h
    rw [weight] at h ⊢
    split at h
    · rename_i hn
      rw [if_pos hn]
      have h1 := ih _ h
      have h2 := capSum_two n x.2.2.length (by omega)
      rw [h1, h2, flat_cons, List.length_append, List.length_cons]
      omega
    · omega
theorem weight_drop (limit n : Nat) (L : List (Option Addr × Nat × List Nat)) (k : Nat) (h : k < L.length) : weight limit n (L.drop k) = if n ≤ limit then weight limit (capSum n [L[k].2.2.length, 1]) (L.drop (k + 1)) else n := by
  rw [List.drop_eq_getElem_cons h]
  rfl

set_option maxRecDepth 100000 in
theorem alikeBytes_row (limit : Nat) (b off cap : Nat) (L : List (Option Addr × Nat × List Nat)) (hl : L.length ≤ maxLen) (hf : Fine L) (w : World) (hc : RowsAt w (some ⟨b, off, none⟩) L) :
    Calls Try.prog 6 #[.slice (some ⟨b, off, none⟩) L.length cap, .int .i64 (limit : Int)] w fun e w' => e = .returned (.int .i64 ((weight limit 0 L : Nat) : Int)) ∧ Below w.heap.size w w' := by
  unfold maxLen at hl
  have HC := Lib.hid hc; clear hc
  have HF := Lib.hid hf; clear hf
  go_enter Try.func6, Try.ntmps6
  go_wp2
  go_loopw [5, 6] (fun t i wr => ∃ k m : Nat, k ≤ L.length ∧ i = .int .i64 k ∧ t = .int .i64 (m : Int) ∧ m ≤ 1099511627776 ∧ weight limit m (L.drop k) = weight limit 0 L ∧ Below w.heap.size w wr) (fun _ i _ => L.length - (intOf i).toNat)
  case atStart => exact ⟨0, 0, Nat.zero_le _, rfl, rfl, by omega, rfl, Below.refl _ _⟩
  case round =>
    obtain ⟨k, m, hk, rfl, rfl, hm, he, hbel⟩ := hrel
    have HE := Lib.hid he; clear he
    have HB := Lib.hid hbel; clear hbel
    by_cases hlt : k < L.length
    · have HW := Lib.hid (HE.out ▸ weight_drop limit m L k hlt : weight limit 0 L = _)
      by_cases hml : m ≤ limit
      · have hcell := ((HC.out.below HB.out).cell hlt).1
        have hxl := (HF.out _ (List.getElem_mem hlt)).1
        unfold maxLen at hxl
        obtain ⟨a, HA⟩ : ∃ a, Hid (L[k].2.2.length = a) := ⟨L[k].2.2.length, Lib.hid rfl⟩
        rw [HA.out] at hcell hxl HW
        have HR : Hid (weight limit (capSum m [a, 1]) (L.drop (k + 1)) = weight limit 0 L) := by show _ = _; rw [HW.out, if_pos hml]
        obtain ⟨r, HRR⟩ : ∃ r, Hid (capSum m [a, 1] = r) := ⟨_, rfl⟩
        have hr : r ≤ 1099511627776 := by rw [← HRR.out]; exact capSum_le m hm _
        rw [HRR.out] at HR
        have HS := Lib.hid (alikeSum_row m (by omega) wr.heap.size 0 2 [a, 1] (by simp [maxLen]) (by simp; omega) _ (ints_two wr 3 a 1))
        rw [HRR.out] at HS
        clear HW HRR
        go_wp2_with (go_at_call 14; refine HS.out.mono ?_; rintro e w' ⟨rfl, rfl⟩)
        go_roundw
        case rel => exact ⟨k + 1, r, by omega, by go_num, rfl, hr, HR.out, HB.out.alloc HB.out.size _⟩
        case measure => simp [intOf]; omega
      · have HR : Hid (m = weight limit 0 L) := by show _ = _; rw [HW.out, if_neg hml]
        have hml' : limit < m := by omega
        go_wp2
        go_ret
        exact ⟨by rw [← HR.out]; rfl, HB.out⟩
    · have HR : Hid (m = weight limit 0 L) := by
        show m = weight limit 0 L
        rw [← HE.out, List.drop_eq_nil_of_le (by omega)]
        rfl
      go_wp2
      go_ret
      exact ⟨by rw [← HR.out]; rfl, HB.out⟩
theorem alikeBytes_nil (limit : Nat) (A : Option Addr) (cap : Nat) (w : World) :
    Calls Try.prog 6 #[.slice A 0 cap, .int .i64 (limit : Int)] w fun e w' => e = .returned (.int .i64 ((weight limit 0 [] : Nat) : Int)) ∧ Below w.heap.size w w' := by
  go_enter Try.func6, Try.ntmps6
  go_wp2
  refine wp_loop_rounds 1 ?_
  rw [rounds_succ]
  go_wp2
  go_ret
  exact ⟨rfl, Below.refl _ _⟩
theorem alikeBytes_at {A : Option Addr} {L : List (Option Addr × Nat × List Nat)} (limit : Nat) (cap : Nat) (hl : L.length ≤ maxLen) (hf : Fine L) (w : World) (h : RowsAt w A L) :
    Calls Try.prog 6 #[.slice A L.length cap, .int .i64 (limit : Int)] w fun e w' => e = .returned (.int .i64 ((weight limit 0 L : Nat) : Int)) ∧ Below w.heap.size w w' := by
  cases L with
  | nil => exact alikeBytes_nil limit A cap w
  | cons c L =>
    obtain ⟨b, off, rfl, _⟩ := h.form (by simp)
    exact alikeBytes_row limit b off cap _ hl hf w h
end Go.Proofs.Ytgjnjnfodomldaa
