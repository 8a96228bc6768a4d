/- Slices of edits: what they read as, in this world and in later ones; how such an argument is opened. No condition beyond those that each lemma states. (Merged of 2 texts.) -/
import Derived.Test.YtnadhpajelkngaaKCells
/- Parts of edits, with their slice's room: no shorter than they are. No condition. -/
namespace Go.Proofs.Ytnadhpajelkngaa
open Go.RowKit Go.Deep

/-- The slice with address A and capacity c holds these parts. -/
def CompsC (w : World) (A : Option Addr) (c : Nat) (l : List CompV) : Prop := CompsAt w A l ∧ l.length ≤ c
theorem CompsC.below {w w' : World} {A : Option Addr} {c : Nat} {l : List CompV} (h : CompsC w A c l) (hb : Below w.heap.size w w') : CompsC w' A c l := ⟨h.1.below hb, h.2⟩
theorem CompsC.drew {w : World} {A : Option Addr} {c : Nat} {l : List CompV} (h : CompsC w A c l) : CompsC w.drew A c l := ⟨h.1.drew, h.2⟩
theorem CompsC.of_own {w : World} {base : Nat} {A : Option Addr} {c : Nat} {l : List CompV} (h : w.ownsRow base 54 3 (.slice A l.length c) l.length (l.flatMap compCells)) : CompsC w A c l := by
  refine ⟨CellsAt.of_own h, ?_⟩
  rcases h.2 with ⟨h1, h2⟩ | ⟨g, cap, cur, h1, _, _, h2, _⟩
  · rw [h2]; exact Nat.zero_le _
  · injection h1 with _ _ h1
    rw [h1]; exact h2
end Go.Proofs.Ytnadhpajelkngaa

/- Slices of edits: what they read as, in this world and in later ones; how such an argument is opened. No condition beyond those that each lemma states. -/
namespace Go.Proofs.Ytnadhpajelkngaa
open Go.ChangeShapes Go.WideShapes Go.ChangeAt Go.RowKit Go.Deep

/-- An edit in memory: its address, its capacity, its parts. -/
abbrev EditR := Option Addr × Nat × List CompV
/-- The slice of edits with address A. -/
def RowsC (w : World) (A : Option Addr) (L : List EditR) : Prop :=
  L = [] ∨ ∃ b off, A = some ⟨b, off, none⟩ ∧ b < w.heap.size ∧ ∀ (j : Nat) (x : EditR), L[j]? = some x → w.cell? ⟨b, off + j, none⟩ = some (.slice x.1 x.2.2.length x.2.1) ∧ CompsC w x.1 x.2.1 x.2.2
theorem RowsC.below {w w' : World} {A : Option Addr} {L : List EditR} (h : RowsC w A L) (hb : Below w.heap.size w w') : RowsC w' A L := by
  rcases h with h | ⟨b, off, hA, hlt, hc⟩
  · exact .inl h
  · exact .inr ⟨b, off, hA, Nat.lt_of_lt_of_le hlt hb.size, fun j x hj => ⟨(hb.cell (p := ⟨b, off + j, none⟩) hlt).trans (hc j x hj).1, (hc j x hj).2.below hb⟩⟩
theorem RowsC.cell {w : World} {b off : Nat} {L : List EditR} (h : RowsC w (some ⟨b, off, none⟩) L) {j : Nat} (hj : j < L.length) :
    w.cell? ⟨b, off + j, none⟩ = some (.slice L[j].1 L[j].2.2.length L[j].2.1) ∧ CompsC w L[j].1 L[j].2.1 L[j].2.2 := by
  rcases h with rfl | ⟨b', off', e, _, hc⟩
  · simp at hj
  · injection e with e
    injection e with e1 e2 e3
    subst e1 e2
    exact hc j _ (List.getElem?_eq_getElem hj)
theorem RowsC.form {w : World} {A : Option Addr} {L : List EditR} (h : RowsC w A L) (h0 : 0 < L.length) : ∃ b off, A = some ⟨b, off, none⟩ ∧ b < w.heap.size := by
  rcases h with rfl | ⟨b, off, e, hlt, _⟩
  · simp at h0
  · exact ⟨b, off, e, hlt⟩
/-- What each of them is: no more than memory holds. -/
def FineC (L : List EditR) : Prop := ∀ x ∈ L, (∀ y ∈ x.2.2, y.Good) ∧ x.2.2.length ≤ x.2.1 ∧ x.2.1 ≤ maxLen
/-- The edits alone. -/
def edits (L : List EditR) : List (List CompV) := L.map fun x => x.2.2
/-- A part of a slice of edits. -/
theorem RowsC.take {w : World} {A : Option Addr} {L : List EditR} (h : RowsC w A L) (k : Nat) : RowsC w A (L.take k) := by
  rcases h with rfl | ⟨b, off, e, hlt, hc⟩
  · exact .inl (by simp)
  · refine .inr ⟨b, off, e, hlt, fun j x hj => hc j x ?_⟩
    rw [List.getElem?_take] at hj
    split at hj
    · exact hj
    · cases hj
theorem RowsC.drop {w : World} {b off : Nat} {L : List EditR} (h : RowsC w (some ⟨b, off, none⟩) L) (k : Nat) : RowsC w (some ⟨b, off + k, none⟩) (L.drop k) := by
  rcases h with rfl | ⟨b', off', e, hlt, hc⟩
  · exact .inl (by simp)
  · injection e with e
    injection e with e1 e2 e3
    subst e1 e2
    refine .inr ⟨b, off + k, rfl, hlt, fun j x hj => ?_⟩
    rw [List.getElem?_drop] at hj
    rw [Nat.add_assoc]
    exact hc (k + j) x hj

section
variable {H : Type} {enc : TypeId × Value → H} {w : World}
set_option maxRecDepth 100000 in
theorem open_compss_cells {fuel : Nat} {cs : List Value} {x : DataW H × List MemPlace} (h : DataW.trod enc Try.prog w 0 (fun _ => true) true fuel 61 cs = some x) (hlt : ∀ p ∈ x.2, p.block < w.heap.size) :
    ∃ A L c, cs = [.slice A (List.length L) c] ∧ RowsC w A L ∧ FineC L ∧ L.length ≤ c ∧ c ≤ maxLen := by
  have ce : Try.prog.cellsOf 22 = 1 := by kernel_rfl
  rcases open_slice Try.underlying61 h with ⟨rfl, rfl⟩ | ⟨a, len, cap, m, n, D, Pl, rfl, _, hl, hm, hmm, rfl, hx⟩
  · exact ⟨none, [], 0, rfl, .inl rfl, fun _ h => (by cases h), Nat.le_refl _, Nat.zero_le _⟩
  · simp only [if_true] at hmm
    subst hmm
    have each : ∀ i, i < len → ∃ y : EditR, ((∀ z ∈ y.2.2, z.Good) ∧ y.2.2.length ≤ y.2.1 ∧ y.2.1 ≤ maxLen) ∧ w.cell? (a.add i) = some (.slice y.1 y.2.2.length y.2.1) ∧ CompsAt w y.1 y.2.2 := by
      intro i hi
      obtain ⟨cs', h1, h2⟩ := hx i (by omega)
      rw [ce] at h1
      obtain ⟨_, hlen, hcell⟩ := World.cells?_some h1
      obtain ⟨A, l, c, rfl, hA, hg, hlc, hcm⟩ := open_comps_cells h2 (fun p hp => hlt p (List.mem_append_right _ (List.mem_flatMap.2 ⟨i, List.mem_range.2 (by omega), hp⟩)))
      refine ⟨(A, c, l), ⟨hg, hlc, hcm⟩, ?_, hA⟩
      have := hcell 0 (by omega)
      rw [Nat.mul_one, add_add, Nat.add_zero] at this
      exact this
    obtain ⟨f, hf⟩ := choose_lt each
    refine ⟨some a, (List.range len).map f, m, by simp, ?_, ?_, by simpa using hl, hm⟩
    · by_cases h0 : len = 0
      · subst h0
        exact .inl rfl
      · obtain ⟨b, off, q⟩ := a
        have hq : q = none := by simpa [Addr.add] using World.cell?_spot (hf 0 (by omega)).2.1
        subst hq
        have hcell : ∀ r, r < len → w.cell? ⟨b, off + r, none⟩ = some (.slice (f r).1 (f r).2.2.length (f r).2.1) := fun r hrl => by rw [← Go.WideShapes.add_plain]; exact (hf r hrl).2.1
        refine .inr ⟨b, off, rfl, World.block_lt_of_cell? w ⟨b, off + 0, none⟩ (hcell 0 (by omega)), fun j x hj => ?_⟩
        rw [List.getElem?_map, Option.map_eq_some_iff] at hj
        obtain ⟨r, hr1, rfl⟩ := hj
        obtain ⟨hjl, e⟩ := List.getElem?_eq_some_iff.1 hr1
        rw [List.getElem_range] at e
        subst e
        rw [List.length_range] at hjl
        exact ⟨hcell j hjl, (hf j hjl).2.2, (hf j hjl).1.2.1⟩
    · intro x hx
      obtain ⟨r, hr1, rfl⟩ := List.mem_map.1 hx
      exact (hf r (List.mem_range.1 hr1)).1
set_option maxRecDepth 100000 in
theorem open_compss {base : Nat} {v : Value} {d : DataW H} {p : List MemPlace} (hv : Value.okWide Try.prog w .any base 61 v) (h : DataW.Trod enc Try.prog w 0 (fun _ => true) true 61 v d p) (hlt : ∀ x ∈ p, x.block < w.heap.size) :
    ∃ A L c, v = .slice A (List.length L) c ∧ RowsC w A L ∧ FineC L ∧ L.length ≤ c ∧ c ≤ maxLen := by
  obtain ⟨a0, len, cap, rfl⟩ := okWide_slice Try.underlying61 hv
  obtain ⟨fuel, hf⟩ := h
  obtain ⟨A, l, c, e, h1⟩ := open_compss_cells hf hlt
  simp only [Value.cells, List.cons.injEq, and_true] at e
  exact ⟨A, l, c, e, h1⟩
end
end Go.Proofs.Ytnadhpajelkngaa
