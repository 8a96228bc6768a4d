/- Rows of the call's own: what they are in later worlds. No condition beyond those that each lemma states. -/
import Derived.Test.YtfbkdabnbddgpaaOnly
import Derived.Test.YtfbkdabnbddgpaaCells
import Derived.Deep.OwnRows
import Derived.Deep.AppendLies
namespace Go.Proofs.Ytfbkdabnbddgpaa
open Go.RowKit Go.Deep

/-- A row of the call's own, in a later world. -/
theorem own_below {w w' : World} {base : Nat} {e : TypeId} {size : Nat} {v : Value} {n : Nat} {xs : List Value} (h : w.ownsRow base e size v n xs) (hb : Below w.heap.size w w') : w'.ownsRow base e size v n xs := by
  refine ⟨h.1, ?_⟩
  rcases h.2 with h2 | ⟨g', cap, cur, hv, hg, hh, h3, h4, h5⟩
  · exact .inl h2
  · have hlt : g' < w.heap.size := by
      rcases Nat.lt_or_ge g' w.heap.size with hlt | hge
      · exact hlt
      · rw [Array.getElem?_eq_none hge] at hh; cases hh
    exact .inr ⟨g', cap, cur, hv, hg, by rw [hb.block g' hlt]; exact hh, h3, h4, h5⟩
theorem Only.grown {g : Nat} {a w w' : World} {row : Option Nat} (h : Only g a w) (hg : w.grownBy w' row) (hr : ∀ k, row = some k → a.heap.size ≤ k) : Only g a w' :=
  ⟨hg.os.trans h.os, hg.tape.trans h.tape, hg.output.trans h.output, Nat.le_trans h.size hg.size, fun k hk hkg => (hg.block k (Nat.lt_of_lt_of_le hk h.size) (fun e => by have := hr k e.symm; omega)).trans (h.block k hk hkg)⟩
theorem own_only {w w' : World} {base g : Nat} {e : TypeId} {size : Nat} {v : Value} {n : Nat} {xs : List Value} (h : w.ownsRow base e size v n xs) (ho : Only g w w') (hg : g < base) : w'.ownsRow base e size v n xs := by
  refine ⟨h.1, ?_⟩
  rcases h.2 with h2 | ⟨g', cap, cur, hv, hgb, hh, h3, h4, h5⟩
  · exact .inl h2
  · have hlt : g' < w.heap.size := by
      rcases Nat.lt_or_ge g' w.heap.size with hlt | hge
      · exact hlt
      · rw [Array.getElem?_eq_none hge] at hh; cases hh
    exact .inr ⟨g', cap, cur, hv, hgb, by rw [ho.block g' hlt (by omega)]; exact hh, h3, h4, h5⟩
/-- Cells that lie in a row of the call's own. -/
theorem CellsAt.of_own {w : World} {base : Nat} {e : TypeId} {size : Nat} {A : Option Addr} {n c : Nat} {xs : List Value} (h : w.ownsRow base e size (.slice A n c) n xs) : CellsAt w A xs := by
  by_cases h0 : n = 0
  · subst h0
    exact .inl (List.eq_nil_of_length_eq_zero (by rw [h.1, Nat.zero_mul]))
  · obtain ⟨g, cap, hv, _, hlt⟩ := h.form (by omega)
    injection hv with h1 h2 h3
    subst h1
    subst h3
    refine .inr ⟨g, 0, rfl, hlt, fun j x hx => ?_⟩
    have := h.cells (g := g) rfl j x hx
    rw [Nat.zero_add]
    rw [Go.WideShapes.add_plain, Nat.zero_add] at this
    exact this
theorem own_base {w : World} {base base' : Nat} {e : TypeId} {size : Nat} {v : Value} {n : Nat} {xs : List Value} (h : w.ownsRow base e size v n xs) (hb : base' ≤ base) : w.ownsRow base' e size v n xs := by
  refine ⟨h.1, ?_⟩
  rcases h.2 with h2 | ⟨g', cap, cur, hv, hgb, hh, h3, h4, h5⟩
  · exact .inl h2
  · exact .inr ⟨g', cap, cur, hv, by omega, hh, h3, h4, h5⟩
/-- A row of another type than the one that has grown. -/
theorem own_grown {w w' : World} {base base2 : Nat} {e e2 : TypeId} {size size2 : Nat} {v v2 : Value} {n n2 : Nat} {xs xs2 : List Value} (h : w.ownsRow base e size v n xs) (h2 : w.ownsRow base2 e2 size2 v2 n2 xs2) (he : e ≠ e2) (hg : w.grownBy w' v2.ownBlock) : w'.ownsRow base e size v n xs := by
  refine ⟨h.1, ?_⟩
  rcases h.2 with h0 | ⟨g', cap, cur, hv, hgb, hh, h3, h4, h5⟩
  · exact .inl h0
  · have hlt : g' < w.heap.size := by
      rcases Nat.lt_or_ge g' w.heap.size with hlt | hge
      · exact hlt
      · rw [Array.getElem?_eq_none hge] at hh; cases hh
    refine .inr ⟨g', cap, cur, hv, hgb, ?_, h3, h4, h5⟩
    rw [hg.block g' hlt ?_]
    · exact hh
    · intro e0
      rcases h2.2 with ⟨rfl, _⟩ | ⟨g2, cap2, cur2, rfl, _, hh2, _⟩
      · simp [Value.ownBlock] at e0
      · simp [Value.ownBlock] at e0
        subst e0
        rw [hh] at hh2
        injection hh2 with hh2
        injection hh2 with _ hh2
        exact he hh2
theorem own_len {w : World} {base : Nat} {e : TypeId} {size : Nat} {v : Value} {n : Nat} {xs : List Value} (h : w.ownsRow base e size v n xs) : n ≤ maxLen := by
  rcases h.2 with ⟨_, h0⟩ | ⟨_, _, _, _, _, _, h1, h2, _⟩
  · rw [h0]; exact Nat.zero_le _
  · exact Nat.le_trans h1 h2
/-- A row of another type than the block that alone was written. -/
theorem own_only_type {w w' : World} {base gm : Nat} {e t : TypeId} {size sz : Nat} {v : Value} {n : Nat} {xs : List Value} {f : Nat → Value} (h : w.ownsRow base e size v n xs) (hr : w.rowIs gm t sz f) (he : e ≠ t) (ho : Only gm w w') : w'.ownsRow base e size v n xs := by
  refine ⟨h.1, ?_⟩
  rcases h.2 with h2 | ⟨g', cap, cur, hv, hgb, hh, h3, h4, h5⟩
  · exact .inl h2
  · have hlt : g' < w.heap.size := by
      rcases Nat.lt_or_ge g' w.heap.size with hlt | hge
      · exact hlt
      · rw [Array.getElem?_eq_none hge] at hh; cases hh
    have hne : g' ≠ gm := by
      intro e0
      subst e0
      obtain ⟨c, hc, _⟩ := hr
      rw [hh] at hc
      injection hc with hc
      injection hc with _ hc
      exact he hc
    exact .inr ⟨g', cap, cur, hv, hgb, by rw [ho.block g' hlt hne]; exact hh, h3, h4, h5⟩
end Go.Proofs.Ytfbkdabnbddgpaa
