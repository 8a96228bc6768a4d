/- The contract of the statements' own small: are nodes, and acts, looked at? What that says of them. Condition: what memory may hold. -/
import Derived.Test.YtmedaimndaaiiaaGreatMAl
import Derived.Test.YtmedaimndaaiiaaGreatMOm
import Derived.Test.YtmedaimndaaiiaaGreatMTm
import Derived.Test.YtmedaimndaaiiaaGreatMTTreeOwn
/- The contract of the statements' own small: are nodes, and acts, looked at? What that says of them. Condition: what memory may hold. -/
namespace Go.Proofs.YtmedaimndaaiiaaGreat
open Go.RowKit Go.Deep

theorem le_sum : ∀ {l : List Nat} {x : Nat}, x ∈ l → x ≤ l.sum
  | y :: l, x, h => by
    rw [List.sum_cons]
    rcases List.mem_cons.1 h with rfl | h
    · omega
    · have := le_sum h; omega
theorem wt_each {α : Type} (f : α → List Nat) (lim : Nat) (hlim : lim < 1099511627776) (l : List α) (h : wts lim 0 (l.map f) ≤ lim) : (∀ x ∈ l, (f x).sum ≤ lim) ∧ ((l.map f).map List.sum).sum ≤ lim := by
  have e := wts_spec lim hlim (l.map f) 0 h
  have h2 : ((l.map f).map List.sum).sum ≤ lim := by omega
  refine ⟨fun x hx => ?_, h2⟩
  have : (f x).sum ∈ (l.map f).map List.sum := List.mem_map.2 ⟨_, List.mem_map.2 ⟨x, hx, rfl⟩, rfl⟩
  exact Nat.le_trans (le_sum this) h2
theorem len_sum {α : Type} (f : α → List Nat) (hf : ∀ x, 1 ≤ (f x).sum) : ∀ l : List α, l.length ≤ ((l.map f).map List.sum).sum
  | [] => Nat.le_refl _
  | x :: l => by
    have := len_sum f hf l
    have := hf x
    rw [List.map_cons, List.map_cons, List.sum_cons, List.length_cons]
    omega
theorem nodes_guard {l : List NodeV} (h : nodesWeight 4000 l ≤ 4000) : l.length ≤ 4000 ∧ ∀ y ∈ l, y.name.length ≤ 4000 ∧ y.text.length ≤ 4000 := by
  obtain ⟨h1, h2⟩ := wt_each nodeTerms 4000 (by omega) l h
  have h3 := len_sum nodeTerms (fun x => by simp [nodeTerms]; omega) l
  refine ⟨by omega, fun y hy => ?_⟩
  have := h1 y hy
  simp [nodeTerms] at this
  omega
theorem tlen_cons (c : CompV) (l : List CompV) : tlen (c :: l) = c.text.length + tlen l := by simp [tlen]
theorem comps_guard {l : List CompV} (h : compsWeight 4000 l ≤ 4000) : tlen l ≤ 4000 ∧ ∀ y ∈ l, y.text.length ≤ 4000 := by
  obtain ⟨h1, h2⟩ := wt_each compTerms 4000 (by omega) l h
  have h3 : ∀ l : List CompV, tlen l ≤ ((l.map compTerms).map List.sum).sum := fun l => by
    induction l with
    | nil => exact Nat.zero_le _
    | cons c l ih =>
      rw [tlen_cons, List.map_cons, List.map_cons, List.sum_cons]
      have : c.text.length ≤ (compTerms c).sum := by simp [compTerms]
      omega
  refine ⟨Nat.le_trans (h3 l) h2, fun y hy => ?_⟩
  have := h1 y hy
  simp [compTerms] at this
  omega
theorem act_ok {a : ActV} (hg : a.Good) (hn : a.name.length ≤ 4000) (h : compsWeight 4000 a.ops ≤ 4000) : ActOk a := by
  obtain ⟨h1, h2⟩ := comps_guard h
  exact ⟨hg, hn, fun y hy => ⟨hg.2.2.2.2.1 y hy, by have := h2 y hy; omega⟩, h1⟩
theorem acts_guard {l : List ActV} (hg : ∀ y ∈ l, y.Good) (h : actsWeight 4000 l ≤ 4000) : ∀ y ∈ l, ActOk y := fun y hy => by
  obtain ⟨h1, h2⟩ := wt_each (actTerms 4000) 4000 (by omega) l h
  have := h1 y hy
  simp only [actTerms, List.sum_cons, List.sum_nil] at this
  exact act_ok (hg y hy) (by omega) (by omega)
def smallB (l : List NodeV) (m : List ActV) : Bool := decide (nodesWeight 4000 l ≤ 4000) && decide (actsWeight 4000 m ≤ 4000) && decide (m.length ≤ 60)
theorem small_no_acts (l : List NodeV) : smallB l [] = decide (nodesWeight 4000 l ≤ 4000) := by
  have : actsWeight 4000 [] = 0 := by rw [actsWeight, List.map_nil, wts_nil]
  unfold smallB
  rw [this]
  simp
theorem small_yes {l : List NodeV} {m : List ActV} (h : smallB l m = true) : nodesWeight 4000 l ≤ 4000 ∧ actsWeight 4000 m ≤ 4000 ∧ m.length ≤ 60 := by
  unfold smallB at h
  simp at h
  exact ⟨h.1.1, h.1.2, h.2⟩
theorem wt_slim {l : List NodeV} (h : nodesWeight 4000 l ≤ 4000) : Slim l := fun y hy => by
  have := (nodes_guard h).2 y hy
  omega
attribute [irreducible] smallB
end Go.Proofs.YtmedaimndaaiiaaGreat
