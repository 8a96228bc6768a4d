/- Weights that are held at a limit. Conditions: as each states. -/
import Derived.Test.YtgenphpaidanhaaAlike
namespace Go.Proofs.Ytgenphpaidanhaa
open Go.RowKit Go.Deep

/-- Weights of many, each made of some numbers; beyond the limit it is not counted on. -/
def wts (limit : Nat) : Nat → List (List Nat) → Nat
  | n, [] => n
  | n, x :: L => if n ≤ limit then wts limit (capSum n x) L else n
theorem wts_nil (limit n : Nat) : wts limit n [] = n := rfl
theorem wts_drop (limit n : Nat) (L : List (List Nat)) (k : Nat) (h : k < L.length) : wts limit n (L.drop k) = if n ≤ limit then wts limit (capSum n L[k]) (L.drop (k + 1)) else n := by
  rw [List.drop_eq_getElem_cons h]
  rfl
theorem capSum_held (xs : List Nat) : ∀ n, n ≤ 1099511627776 → capSum n xs ≤ 1099511627776 := by
  induction xs with
  | nil => intro n hn; exact hn
  | cons x xs ih =>
    intro n hn
    rw [capSum]
    split
    · exact Nat.le_refl _
    · exact ih _ (by omega)
theorem capSum_sum (xs : List Nat) : ∀ n, capSum n xs < 1099511627776 → capSum n xs = n + xs.sum := by
  induction xs with
  | nil => intro n _; rfl
  | cons x xs ih =>
    intro n h
    rw [capSum] at h ⊢
    split at h
    · omega
    · rename_i h1
      rw [if_neg h1, ih _ h, List.sum_cons]
      omega
theorem wts_spec (limit : Nat) (hl : limit < 1099511627776) (L : List (List Nat)) : ∀ n, wts limit n L ≤ limit → wts limit n L = n + (L.map List.sum).sum := by
  induction L with
  | nil => intro n _; rfl
  | cons x L ih =>
    intro n h
    have e : wts limit n (x :: L) = if n ≤ limit then wts limit (capSum n x) L else n := rfl
    rw [e] at h ⊢
    split at h
    · rename_i hn
      rw [if_pos hn]
      have h1 := ih _ h
      have h2 := capSum_sum x n (by omega)
      rw [h1, h2, List.map_cons, List.sum_cons]
      omega
    · omega
theorem wts_held (limit : Nat) (L : List (List Nat)) : ∀ n, n ≤ 1099511627776 → wts limit n L ≤ 1099511627776 := by
  induction L with
  | nil => intro n hn; exact hn
  | cons x L ih =>
    intro n hn
    show (if n ≤ limit then wts limit (capSum n x) L else n) ≤ 1099511627776
    split
    · exact ih _ (capSum_held x n hn)
    · exact hn
attribute [irreducible] wts

theorem nats_lit (w : World) (t : TypeId) (cs : Array Value) (xs : List Nat) (h : ∀ j x : Nat, xs[j]? = some x → cs[j]? = some (.int .i64 (x : Int))) (g : Nat) (hg : g = w.heap.size) : NatsAt (w.alloc (.cells cs t)) g 0 xs := by
  subst hg
  intro j x hx
  rw [Nat.zero_add, cell_of_row _ _ _ _ t (0, 0) (heap_alloc_new w _)]
  exact h j x hx

end Go.Proofs.Ytgenphpaidanhaa
