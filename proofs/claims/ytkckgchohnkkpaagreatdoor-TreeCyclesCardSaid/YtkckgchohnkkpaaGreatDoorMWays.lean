/- A move among directories, by how the two paths lie. No condition. -/
import Derived.Test.YtkckgchohnkkpaaGreatDoorMSix
/- A move among directories, by how the two paths lie. No condition. -/
namespace Go.Proofs.YtkckgchohnkkpaaGreatDoor

/-- The ways of the two paths, with what the call answers. -/
def CycWay (p q : List Nat) (tg : Nat) (u : Int) : Prop :=
  (u = 10 ∧ tg ≠ 0 ∧ q = p) ∨ (u = 10 ∧ tg ≠ 0 ∧ ∃ r, q = p ++ 47 :: r) ∨ (u = 0 ∧ q.length < p.length) ∨ (u = 0 ∧ tg ≠ 0 ∧ p.length ≤ q.length ∧ q.take p.length ≠ p) ∨ (u = 0 ∧ tg ≠ 0 ∧ ∃ c r, c ≠ 47 ∧ q = p ++ c :: r)
theorem cyc_ways {n : Nat} {T : List NodeV} (hm : TreeM T) (hd : Dirs n T) (hn : n ≤ 26) {i tg : Nat} (hi : i < n) (ht : tg ≤ n) :
    ∃ p q X u, rPath T ((i : Int) + 1) = some p ∧ rPath T (tg : Int) = some q ∧ (∀ c ∈ p, c < 256) ∧ (∀ c ∈ q, c < 256) ∧ rDo T ⟨3, (i : Int) + 1, (tg : Int), [97 + i], false, none, 0, []⟩ = (X, u) ∧ TreeM X ∧ Dirs n X ∧ CycWay p q tg u := by
  obtain ⟨p, q, X, u, h1, h2, h3, h4, h5, h6, h7, h8⟩ := cyc_move hm hd hn hi ht
  refine ⟨p, q, X, u, h1, h2, h3, h4, h5, h6, h7, ?_⟩
  have h9 : tg = 0 → q.length < p.length := fun e => by
    subst e
    rw [show ((0 : Nat) : Int) = 0 from rfl, path_root] at h2
    obtain rfl := Option.some.inj h2
    cases p with
    | nil =>
      obtain ⟨x, hx, ex⟩ := dirs_at hd hi
      obtain ⟨s, hs, hs0, _⟩ := seek_path hm hx
      rw [ex, h1] at hs
      exact absurd (Option.some.inj hs).symm hs0
    | cons c r => simp
  rcases h8 with ⟨hu, h0, hU⟩ | ⟨hu, hU⟩
  · rcases hU with e | ⟨r, e⟩
    · exact .inl ⟨hu, h0, e⟩
    · exact .inr (.inl ⟨hu, h0, r, e⟩)
  · rcases under_ways p q with e | ⟨r, e⟩ | ⟨_, hw⟩
    · exact absurd (.inl e) hU
    · exact absurd (.inr ⟨r, e⟩) hU
    · by_cases hl : q.length < p.length
      · exact .inr (.inr (.inl ⟨hu, hl⟩))
      · have h0 : tg ≠ 0 := fun e => hl (h9 e)
        rcases hw with g | ⟨g, k⟩ | ⟨c, r, g, k⟩
        · exact absurd g hl
        · exact .inr (.inr (.inr (.inl ⟨hu, h0, g, k⟩)))
        · exact .inr (.inr (.inr (.inr ⟨hu, h0, c, r, g, k⟩)))
end Go.Proofs.YtkckgchohnkkpaaGreatDoor
