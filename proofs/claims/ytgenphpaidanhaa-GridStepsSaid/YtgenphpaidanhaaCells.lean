/- Slices of records that come in, nil among them: the cells that they read as, in this world and in later ones; how such an argument is opened, record by record. Condition: no slice is longer than memory. -/
import Derived.Test.YtgenphpaidanhaaBstr
import Derived.Deep.Slices
namespace Go.Proofs.Ytgenphpaidanhaa
open Go.ChangeShapes Go.WideShapes Go.ChangeAt Go.RowKit Go.Deep

/-- The cells from A on hold these values, and lie below the heap's end. -/
def CellsAt (w : World) (A : Option Addr) (l : List Value) : Prop :=
  l = [] ∨ ∃ b off, A = some ⟨b, off, none⟩ ∧ b < w.heap.size ∧ ∀ (j : Nat) (v : Value), l[j]? = some v → w.cell? ⟨b, off + j, none⟩ = some v
theorem CellsAt.below {w w' : World} {A : Option Addr} {l : List Value} (h : CellsAt w A l) (hb : Below w.heap.size w w') : CellsAt w' A l := by
  rcases h with h | ⟨b, off, hA, hlt, hc⟩
  · exact .inl h
  · exact .inr ⟨b, off, hA, Nat.lt_of_lt_of_le hlt hb.size, fun j c hj => (hb.cell (p := ⟨b, off + j, none⟩) hlt).trans (hc j c hj)⟩
theorem CellsAt.drew {w : World} {A : Option Addr} {l : List Value} (h : CellsAt w A l) : CellsAt w.drew A l := h
theorem CellsAt.alloc {w : World} {A : Option Addr} {l : List Value} (h : CellsAt w A l) (o : Obj) : CellsAt (w.alloc o) A l := h.below ((Below.refl _ _).alloc (Nat.le_refl _) _)
theorem CellsAt.form {w : World} {A : Option Addr} {l : List Value} (h : CellsAt w A l) (h0 : l ≠ []) : ∃ b off, A = some ⟨b, off, none⟩ ∧ b < w.heap.size := by
  rcases h with h | ⟨b, off, e, hlt, _⟩
  · exact absurd h h0
  · exact ⟨b, off, e, hlt⟩
theorem CellsAt.cell {w : World} {b off : Nat} {l : List Value} (h : CellsAt w (some ⟨b, off, none⟩) l) {j : Nat} {v : Value} (hj : l[j]? = some v) : w.cell? ⟨b, off + j, none⟩ = some v := by
  rcases h with rfl | ⟨b', off', e, _, hc⟩
  · simp at hj
  · injection e with e
    injection e with e1 e2 e3
    subst e1 e2
    exact hc j v hj

theorem flat_get {α : Type} (g : α → List Value) (k : Nat) (hg : ∀ x, (g x).length = k) : ∀ (l : List α) (i : Nat) (hi : i < l.length) (f : Nat), f < k → (l.flatMap g)[i * k + f]? = (g l[i])[f]? := by
  intro l
  induction l with
  | nil => intro i hi; simp at hi
  | cons x l ih =>
    intro i hi f hf
    rw [List.flatMap_cons]
    cases i with
    | zero => rw [Nat.zero_mul, Nat.zero_add, List.getElem?_append_left (by rw [hg]; exact hf)]; rfl
    | succ i =>
      rw [List.getElem?_append_right (by rw [hg, Nat.succ_mul]; omega), hg, show (i + 1) * k + f - k = i * k + f by rw [Nat.succ_mul]; omega, ih i (by simpa using hi) f hf]
      rfl
theorem flat_length {α : Type} (g : α → List Value) (k : Nat) (hg : ∀ x, (g x).length = k) (l : List α) : (l.flatMap g).length = l.length * k := by
  induction l with
  | nil => simp
  | cons x l ih => rw [List.flatMap_cons, List.length_append, hg, ih, List.length_cons, Nat.succ_mul]; omega
theorem flat_lt {α : Type} {g : α → List Value} {k : Nat} (hg : ∀ x, (g x).length = k) {l : List α} {j : Nat} {v : Value} (hk : 0 < k) (h : (l.flatMap g)[j]? = some v) : ∃ i f, ∃ hi : i < l.length, f < k ∧ j = i * k + f ∧ (g l[i])[f]? = some v := by
  have hj : j < l.length * k := by rw [← flat_length g k hg]; exact (List.getElem?_eq_some_iff.1 h).1
  have hi : j / k < l.length := Nat.div_lt_of_lt_mul (by rw [Nat.mul_comm]; exact hj)
  have hf : j % k < k := Nat.mod_lt _ hk
  have e : j = j / k * k + j % k := by rw [Nat.mul_comm]; exact (Nat.div_add_mod j k).symm
  refine ⟨j / k, j % k, hi, hf, e, ?_⟩
  rw [← flat_get g k hg l _ hi _ hf, ← e]
  exact h

section
variable {H : Type} {enc : TypeId × Value → H} {P : Program} {w : World}

/-- A slice of records: what each record's cells hold, and how each field reads. -/
theorem open_records {t e : TypeId} {fs : Array Field} {k fuel : Nat} {cs : List Value} {x : DataW H × List MemPlace} (ht : P.underlying t = some (.slice e)) (he : P.underlying e = some (.struct fs)) (ce : P.cellsOf e = k)
    (h : DataW.trod enc P w 0 (fun _ => true) true fuel t cs = some x) (hlt : ∀ p ∈ x.2, p.block < w.heap.size) :
    ∃ (A : Option Addr) (n cap m : Nat), cs = [.slice A n cap] ∧ n ≤ cap ∧ cap ≤ maxLen ∧ (0 < n * k → ∃ b off, A = some ⟨b, off, none⟩ ∧ b < w.heap.size) ∧ ∀ i, i < n → ∃ R : List Value, R.length = k ∧ (∀ b off, A = some ⟨b, off, none⟩ → ∀ f, f < k → w.cell? ⟨b, off + (i * k + f), none⟩ = R[f]?) ∧
      ∀ (j : Nat) (f : Field), fs[j]? = some f → ∃ y, DataW.trod enc P w 0 (fun _ => true) true m f.type ((R.drop f.offset).take (P.cellsOf f.type)) = some y ∧ ∀ p ∈ y.2, p.block < w.heap.size := by
  rcases open_slice ht h with ⟨rfl, rfl⟩ | ⟨a, len, cap, m, n, D, Pl, rfl, _, hl, hm, hmm, rfl, hx⟩
  · exact ⟨none, 0, 0, 0, rfl, Nat.le_refl _, Nat.zero_le _, fun h0 => by simp at h0, fun i hi => by omega⟩
  · simp only [if_true] at hmm
    subst hmm
    have hform : 0 < len * k → ∃ b off, (some a : Option Addr) = some ⟨b, off, none⟩ ∧ b < w.heap.size := by
      intro h0
      have hk : 0 < k := Nat.pos_of_mul_pos_left h0
      have hn : 0 < len := Nat.pos_of_mul_pos_right h0
      obtain ⟨cs', h1, _⟩ := hx 0 (by omega)
      rw [ce] at h1
      obtain ⟨_, hlen, hcell⟩ := World.cells?_some h1
      have hc0 := hcell 0 hk
      rw [Nat.zero_mul, add_add, Nat.add_zero, List.getElem?_eq_getElem (by omega)] at hc0
      obtain ⟨b, off, q⟩ := a
      have hq : q = none := by simpa [Addr.add] using World.cell?_spot hc0
      subst hq
      exact ⟨b, off, rfl, World.block_lt_of_cell? w _ (by simpa [Addr.add] using hc0)⟩
    refine ⟨some a, len, m, n - 1, rfl, hl, hm, hform, fun i hi => ?_⟩
    obtain ⟨cs', h1, h2⟩ := hx i (by omega)
    rw [ce] at h1
    obtain ⟨_, hlen, hcell⟩ := World.cells?_some h1
    obtain ⟨xs, n', hn', hxy, _, hxl, hf⟩ := DataW.trod_struct he h2
    refine ⟨cs', hlen, ?_, ?_⟩
    · rintro b off hA f hf'
      injection hA with hA
      subst hA
      have := hcell f hf'
      rw [add_add, Go.WideShapes.add_plain] at this
      exact this
    · intro j f hj
      have h3 := hf j f hj
      have hjl : j < xs.length := by rw [hxl]; exact (Array.getElem?_eq_some_iff.1 hj).1
      rw [List.getElem?_eq_getElem hjl] at h3
      rw [show n - 1 = n' by omega]
      refine ⟨xs[j], h3, fun p hp => hlt p ?_⟩
      refine List.mem_append_right _ (List.mem_flatMap.2 ⟨i, List.mem_range.2 (by omega), ?_⟩)
      simp only [Prod.mk.injEq] at hxy
      rw [hxy.2]
      exact List.mem_flatMap.2 ⟨xs[j], List.getElem_mem hjl, hp⟩
end
end Go.Proofs.Ytgenphpaidanhaa
