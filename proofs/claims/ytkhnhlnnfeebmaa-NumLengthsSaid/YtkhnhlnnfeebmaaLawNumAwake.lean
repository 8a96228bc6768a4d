/- The contract of the laws' own 'awake' of num: it answers true; what was there stays as it was. No condition. -/
import Derived.Test.YtkhnhlnnfeebmaaRefPut
import Derived.Test.YtkhnhlnnfeebmaaRefGet
namespace Go.Proofs.Ytkhnhlnnfeebmaa
open Go.RowKit Go.Deep

/-- The cells of a block that was just laid. -/
theorem lit_cell (w : World) (cs : Array Value) (t : TypeId) (j : Nat) (u : Value) (b : Nat) (hb : b = w.heap.size) (h : cs[j]? = some u) : (w.alloc (.cells cs t)).cell? ⟨b, j, none⟩ = some u := by
  subst hb
  rw [cell_of_row _ _ _ cs t (0, 0) (heap_alloc_new w _), h]

theorem get_128 (b cap : Nat) (w : World) (h0 : w.cell? ⟨b, 0, none⟩ = some (.int .u8 128)) :
    Calls Try.prog 7 #[.slice (some ⟨b, 0, none⟩) 1 cap] w fun e w' => e = .returned (.tuple #[.int .i64 0, .int .i64 0, .int .i64 2]) ∧ w = w' :=
  numGet_any b 0 cap [128] (by simp [maxLen]) (by decide) w fun j x h => by
    match j, h with
    | 0, h => cases h; exact h0
theorem get_130 (b cap : Nat) (w : World) (h0 : w.cell? ⟨b, 0, none⟩ = some (.int .u8 129)) (h1 : w.cell? ⟨b, 1, none⟩ = some (.int .u8 2)) (h2 : w.cell? ⟨b, 2, none⟩ = some (.int .u8 9)) :
    Calls Try.prog 7 #[.slice (some ⟨b, 0, none⟩) 3 cap] w fun e w' => e = .returned (.tuple #[.int .i64 130, .int .i64 2, .int .i64 0]) ∧ w = w' :=
  numGet_any b 0 cap [129, 2, 9] (by simp [maxLen]) (by decide) w fun j x h => by
    match j, h with
    | 0, h => cases h; exact h0
    | 1, h => cases h; rw [Nat.zero_add]; exact h1
    | 2, h => cases h; rw [Nat.zero_add]; exact h2
/-- The bytes of 130, in new memory. -/
def New130 (w : World) (e : Ending) (w' : World) : Prop :=
  ∃ g c, e = .returned (.slice (some ⟨g, 0, none⟩) 2 c) ∧ g < w'.heap.size ∧ w'.cell? ⟨g, 0, none⟩ = some (.int .u8 129) ∧ w'.cell? ⟨g, 1, none⟩ = some (.int .u8 2) ∧ Below w.heap.size w w'
theorem put_130 (w : World) : Calls Try.prog 9 #[.int .i64 130] w (New130 w) :=
  (numPut_yes 130 (by omega) w).mono fun e w1 ⟨v, he, g, c, hv, _, _, hg', hc, hb1⟩ =>
    ⟨g, c, by rw [he, hv]; rfl, hg', hc 0 129 rfl, by have := hc 1 2 rfl; rwa [Nat.zero_add] at this, hb1⟩

set_option maxRecDepth 100000 in
theorem numAwake_any (w : World) : Calls Try.prog 6 #[] w fun e w' => e = .returned (.bool true) ∧ Below w.heap.size w w' := by
  go_enter Try.func6, Try.ntmps6
  go_wp2_with fail
  refine (put_130 _).mono ?_
  rintro e w1 ⟨g, c, rfl, hg', c0, c1, hb1⟩
  go_wp2_with fail
  refine (get_128 _ _ _ (lit_cell _ _ _ 0 _ _ (by simp) rfl)).mono ?_
  rintro e w2 ⟨rfl, rfl⟩
  have hsz : g < (w1.alloc (.cells #[.int .u8 128] 5)).heap.size := by simp; omega
  go_wp2_with fail
  refine (get_130 _ _ _ (lit_cell _ _ _ 0 _ _ (by simp) rfl) (lit_cell _ _ _ 1 _ _ (by simp) rfl) (lit_cell _ _ _ 2 _ _ (by simp) rfl)).mono ?_
  rintro e w3 ⟨rfl, rfl⟩
  go_wp2_with fail
  refine (numFits_no _ (by omega) _).mono ?_
  rintro e w4 ⟨rfl, rfl⟩
  go_wp2_with fail
  refine (numSize_yes 127 (by omega) _).mono ?_
  rintro e w5 ⟨rfl, rfl⟩
  go_wp2_with fail
  go_ret
  refine ⟨rfl, (hb1.alloc hb1.size _).alloc (by have := hb1.size; simp; omega) _⟩
end Go.Proofs.Ytkhnhlnnfeebmaa
