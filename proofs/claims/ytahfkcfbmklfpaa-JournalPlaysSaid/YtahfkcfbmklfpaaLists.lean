/- Slices of slices of bytes: what they read as, in this world and in later ones; how such an argument is opened. No condition beyond those that each lemma states. -/
import Derived.Test.YtahfkcfbmklfpaaBy
namespace Go.Proofs.Ytahfkcfbmklfpaa
open Go.ChangeShapes Go.WideShapes Go.ChangeAt Go.RowKit Go.Deep

/-! ### Slices of slices of bytes -/
/-- The slice of slices with address A: each with its address, its capacity and its bytes. -/
def RowsAt (w : World) (A : Option Addr) (L : List (Option Addr × Nat × List Nat)) : Prop :=
  L = [] ∨ ∃ b off, A = some ⟨b, off, none⟩ ∧ b < w.heap.size ∧ ∀ (j : Nat) (x : Option Addr × Nat × List Nat), L[j]? = some x → w.cell? ⟨b, off + j, none⟩ = some (.slice x.1 x.2.2.length x.2.1) ∧ BytesAt w x.1 x.2.2
theorem RowsAt.below {w w' : World} {A : Option Addr} {L : List (Option Addr × Nat × List Nat)} (h : RowsAt w A L) (hb : Below w.heap.size w w') : RowsAt w' A L := by
  rcases h with h | ⟨b, off, hA, hlt, hc⟩
  · exact .inl h
  · exact .inr ⟨b, off, hA, Nat.lt_of_lt_of_le hlt hb.size, fun j x hj => ⟨(hb.cell (p := ⟨b, off + j, none⟩) hlt).trans (hc j x hj).1, (hc j x hj).2.below hb⟩⟩
theorem RowsAt.cell {w : World} {b off : Nat} {L : List (Option Addr × Nat × List Nat)} (h : RowsAt w (some ⟨b, off, none⟩) L) {j : Nat} (hj : j < L.length) :
    w.cell? ⟨b, off + j, none⟩ = some (.slice L[j].1 L[j].2.2.length L[j].2.1) ∧ BytesAt w L[j].1 L[j].2.2 := by
  rcases h with rfl | ⟨b', off', e, _, hc⟩
  · simp at hj
  · injection e with e
    injection e with e1 e2 e3
    subst e1 e2
    exact hc j _ (List.getElem?_eq_getElem hj)
theorem RowsAt.form {w : World} {A : Option Addr} {L : List (Option Addr × Nat × List Nat)} (h : RowsAt w A L) (h0 : 0 < L.length) : ∃ b off, A = some ⟨b, off, none⟩ ∧ b < w.heap.size := by
  rcases h with rfl | ⟨b, off, e, hlt, _⟩
  · simp at h0
  · exact ⟨b, off, e, hlt⟩
/-- All bytes, one behind the other. -/
def flat (L : List (Option Addr × Nat × List Nat)) : List Nat := L.flatMap (·.2.2)
/-- What each of them is: bytes, no more than memory holds. -/
def Fine (L : List (Option Addr × Nat × List Nat)) : Prop := ∀ x ∈ L, x.2.2.length ≤ maxLen ∧ ∀ c ∈ x.2.2, c < 256
theorem Fine.flat {L : List (Option Addr × Nat × List Nat)} (h : Fine L) : ∀ c ∈ flat L, c < 256 := by
  intro c hc
  obtain ⟨x, hx, hcx⟩ := List.mem_flatMap.1 hc
  exact (h x hx).2 c hcx
theorem Fine.take {L : List (Option Addr × Nat × List Nat)} (h : Fine L) (k : Nat) : Fine (L.take k) := fun x hx => h x (List.mem_of_mem_take hx)
theorem flat_take (L : List (Option Addr × Nat × List Nat)) (k : Nat) (h : k < L.length) : flat (L.take (k + 1)) = flat (L.take k) ++ L[k].2.2 := by
  rw [List.take_succ_eq_append_getElem h, flat, List.flatMap_append]
  congr 1
  simp
theorem flat_nil : flat [] = [] := rfl
theorem lflat_one (A : Option Addr) (c : Nat) (l : List Nat) : flat [(A, c, l)] = l := by simp [flat]
theorem flat_two (A B : Option Addr) (c d : Nat) (l m : List Nat) : flat [(A, c, l), (B, d, m)] = l ++ m := by simp [flat]

/-- A slice of slices that was just laid. -/
theorem RowsAt.lit {w : World} {cs : Array Value} {t : TypeId} {L : List (Option Addr × Nat × List Nat)} (hc : ∀ (j : Nat) (x : Option Addr × Nat × List Nat), L[j]? = some x → cs[j]? = some (Value.slice x.1 x.2.2.length x.2.1) ∧ BytesAt w x.1 x.2.2) :
    RowsAt (w.alloc (.cells cs t)) (some ⟨w.heap.size, 0, none⟩) L := by
  refine .inr ⟨w.heap.size, 0, rfl, by simp, fun j x hx => ⟨?_, (hc j x hx).2.below ((Below.refl _ _).alloc (Nat.le_refl _) _)⟩⟩
  rw [Nat.zero_add, cell_of_row _ _ _ cs t (0, 0) (heap_alloc_new w _), (hc j x hx).1]
theorem rows_one {w : World} {A : Option Addr} {c : Nat} {l : List Nat} (h : BytesAt w A l) (t : TypeId) : RowsAt (w.alloc (.cells #[.slice A l.length c] t)) (some ⟨w.heap.size, 0, none⟩) [(A, c, l)] :=
  RowsAt.lit fun j x hx => by
    match j, hx with
    | 0, hx => cases hx; exact ⟨rfl, h⟩
theorem rows_two {w : World} {A B : Option Addr} {c d : Nat} {l m : List Nat} (h : BytesAt w A l) (h2 : BytesAt w B m) (t : TypeId) :
    RowsAt (w.alloc (.cells #[.slice A l.length c, .slice B m.length d] t)) (some ⟨w.heap.size, 0, none⟩) [(A, c, l), (B, d, m)] :=
  RowsAt.lit fun j x hx => by
    match j, hx with
    | 0, hx => cases hx; exact ⟨rfl, h⟩
    | 1, hx => cases hx; exact ⟨rfl, h2⟩
theorem fine_one {A : Option Addr} {c : Nat} {l : List Nat} (h : l.length ≤ maxLen) (hb : ∀ x ∈ l, x < 256) : Fine [(A, c, l)] := fun x hx => by
  obtain rfl := List.mem_singleton.1 hx
  exact ⟨h, hb⟩
theorem fine_two {A B : Option Addr} {c d : Nat} {l m : List Nat} (h : l.length ≤ maxLen) (hb : ∀ x ∈ l, x < 256) (h2 : m.length ≤ maxLen) (hb2 : ∀ x ∈ m, x < 256) : Fine [(A, c, l), (B, d, m)] := fun x hx => by
  rcases List.mem_cons.1 hx with rfl | hx
  · exact ⟨h, hb⟩
  · obtain rfl := List.mem_singleton.1 hx
    exact ⟨h2, hb2⟩

set_option maxRecDepth 100000 in
/-- An argument of type [][]uint8: what it reads as. -/
theorem open_lists {H : Type} {enc : TypeId × Value → H} {w : World} {base : Nat} {v : Value} {d : DataW H} {p : List MemPlace} (hv : Value.okWide Try.prog w .any base 32 v)
    (h : DataW.Trod enc Try.prog w 0 (fun _ => true) true 32 v d p) :
    ∃ A L c, v = .slice A (List.length L) c ∧ RowsAt w A L ∧ Fine L ∧ L.length ≤ maxLen := by
  obtain ⟨a0, len, cap, rfl⟩ := okWide_slice Try.underlying32 hv
  obtain ⟨fuel, hf⟩ := h
  rcases open_int_rows Try.underlying32 Try.underlying31 Try.underlying5 (by kernel_rfl) (by kernel_rfl) hf with ⟨hcs, hx⟩ | ⟨a, len', cap', A, L, C, Z, hcs, _, hl, hm, hx, hr⟩
  · simp [Value.cells] at hcs
    obtain ⟨rfl, rfl, rfl⟩ := hcs
    exact ⟨none, [], 0, rfl, .inl rfl, fun _ h => (by cases h), by simp⟩
  · simp [Value.cells] at hcs
    obtain ⟨rfl, rfl, rfl⟩ := hcs
    clear hx
    have each : ∀ r, r < len → BytesAt w (A r) (((Z r).take (L r)).map Int.toNat) ∧ (((Z r).take (L r)).map Int.toNat).length = L r ∧ L r ≤ maxLen ∧ ∀ x ∈ ((Z r).take (L r)).map Int.toNat, x < 256 := by
      intro r hrl
      obtain ⟨_, h1, h2, h3, h4, h5, h6⟩ := hr r (by omega)
      have hw : ∀ z ∈ Z r, 0 ≤ z ∧ z ≤ 255 := fun z hzz => by simpa [Lit.wf, IntKind.min, IntKind.max, IntKind.signed, IntKind.bits] using h4 z hzz
      have hlen : (((Z r).take (L r)).map Int.toNat).length = L r := by simp; omega
      refine ⟨?_, hlen, by omega, ?_⟩
      · by_cases h0 : L r = 0
        · exact .inl (by simp [h0])
        · cases hA : A r with
          | none => have := h5 hA; omega
          | some a' =>
            obtain ⟨_, hc⟩ := h6 a' hA
            obtain ⟨b, off, rfl, hc'⟩ := ints_at (fun i hi => hc i (by omega)) (by omega : 0 < (Z r).length)
            refine .inr ⟨b, off, rfl, World.block_lt_of_cell? w ⟨b, off + 0, none⟩ (hc' 0 (by omega)), fun j c hj => ?_⟩
            rw [List.getElem?_map, Option.map_eq_some_iff] at hj
            obtain ⟨z, hz1, rfl⟩ := hj
            rw [List.getElem?_take] at hz1
            split at hz1
            · have hjl : j < (Z r).length := (List.getElem?_eq_some_iff.1 hz1).1
              have h0 := (hw z (List.mem_of_getElem? hz1)).1
              rw [hc' j hjl, List.getD_eq_getElem?_getD, hz1, Option.getD_some, Int.toNat_of_nonneg h0]
            · cases hz1
      · intro x hx
        obtain ⟨z, hz1, rfl⟩ := List.mem_map.1 hx
        have := hw z (List.mem_of_mem_take hz1)
        omega
    refine ⟨some a, (List.range len).map fun r => (A r, C r, ((Z r).take (L r)).map Int.toNat), cap, by simp, ?_, ?_, by simp; omega⟩
    · by_cases h0 : len = 0
      · subst h0
        exact .inl rfl
      · obtain ⟨b, off, spot⟩ := a
        have hspot : spot = none := by simpa [Addr.add] using World.cell?_spot (hr 0 (by omega)).1
        subst hspot
        have hcell : ∀ r, r < len → w.cell? ⟨b, off + r, none⟩ = some (.slice (A r) (L r) (C r)) := fun r hrl => by rw [← Go.WideShapes.add_plain]; exact (hr r (by omega)).1
        refine .inr ⟨b, off, rfl, World.block_lt_of_cell? w ⟨b, off + 0, none⟩ (hcell 0 (by omega)), fun j x hj => ?_⟩
        rw [List.getElem?_map, Option.map_eq_some_iff] at hj
        obtain ⟨r, hr1, rfl⟩ := hj
        obtain ⟨hjl, e⟩ := List.getElem?_eq_some_iff.1 hr1
        rw [List.getElem_range] at e
        subst e
        rw [List.length_range] at hjl
        obtain ⟨e1, e2, _⟩ := each j hjl
        exact ⟨by simp only [e2]; exact hcell j hjl, e1⟩
    · intro x hx
      obtain ⟨r, hr1, rfl⟩ := List.mem_map.1 hx
      obtain ⟨_, e2, e3, e4⟩ := each r (List.mem_range.1 hr1)
      exact ⟨by simp only [e2]; exact e3, e4⟩
end Go.Proofs.Ytahfkcfbmklfpaa
