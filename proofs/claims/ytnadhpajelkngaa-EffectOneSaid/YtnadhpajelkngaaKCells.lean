/- A row that is known cell by cell is known whole. No condition. (Merged of 8 texts.) -/
import Derived.Test.YtnadhpajelkngaaKBase
import Derived.Deep.Slices
import Derived.Deep.OwnRows
import Derived.Deep.AppendLies
import Derived.Laws.Rows
/- Slices of records that come in, nil among them: the cells that they read as, in this world and in later ones; how such an argument is opened, record by record. Condition: no slice is longer than memory. -/
namespace Go.Proofs.Ytnadhpajelkngaa
open Go.ChangeShapes Go.WideShapes Go.ChangeAt Go.RowKit Go.Deep

/-- The cells from A on hold these values, and lie below the heap's end. -/
def CellsAt (w : World) (A : Option Addr) (l : List Value) : Prop :=
  l = [] ∨ ∃ b off, A = some ⟨b, off, none⟩ ∧ b < w.heap.size ∧ ∀ (j : Nat) (v : Value), l[j]? = some v → w.cell? ⟨b, off + j, none⟩ = some v
theorem CellsAt.below {w w' : World} {A : Option Addr} {l : List Value} (h : CellsAt w A l) (hb : Below w.heap.size w w') : CellsAt w' A l := by
  rcases h with h | ⟨b, off, hA, hlt, hc⟩
  · exact .inl h
  · exact .inr ⟨b, off, hA, Nat.lt_of_lt_of_le hlt hb.size, fun j c hj => (hb.cell (p := ⟨b, off + j, none⟩) hlt).trans (hc j c hj)⟩
theorem CellsAt.drew {w : World} {A : Option Addr} {l : List Value} (h : CellsAt w A l) : CellsAt w.drew A l := h
theorem CellsAt.alloc {w : World} {A : Option Addr} {l : List Value} (h : CellsAt w A l) (o : Obj) : CellsAt (w.alloc o) A l := h.below ((Below.refl _ _).alloc (Nat.le_refl _) _)
theorem CellsAt.form {w : World} {A : Option Addr} {l : List Value} (h : CellsAt w A l) (h0 : l ≠ []) : ∃ b off, A = some ⟨b, off, none⟩ ∧ b < w.heap.size := by
  rcases h with h | ⟨b, off, e, hlt, _⟩
  · exact absurd h h0
  · exact ⟨b, off, e, hlt⟩
theorem CellsAt.cell {w : World} {b off : Nat} {l : List Value} (h : CellsAt w (some ⟨b, off, none⟩) l) {j : Nat} {v : Value} (hj : l[j]? = some v) : w.cell? ⟨b, off + j, none⟩ = some v := by
  rcases h with rfl | ⟨b', off', e, _, hc⟩
  · simp at hj
  · injection e with e
    injection e with e1 e2 e3
    subst e1 e2
    exact hc j v hj

theorem flat_get {α : Type} (g : α → List Value) (k : Nat) (hg : ∀ x, (g x).length = k) : ∀ (l : List α) (i : Nat) (hi : i < l.length) (f : Nat), f < k → (l.flatMap g)[i * k + f]? = (g l[i])[f]? := by
  intro l
  induction l with
  | nil => intro i hi; simp at hi
  | cons x l ih =>
    intro i hi f hf
    rw [List.flatMap_cons]
    cases i with
    | zero => rw [Nat.zero_mul, Nat.zero_add, List.getElem?_append_left (by rw [hg]; exact hf)]; rfl
    | succ i =>
      rw [List.getElem?_append_right (by rw [hg, Nat.succ_mul]; omega), hg, show (i + 1) * k + f - k = i * k + f by rw [Nat.succ_mul]; omega, ih i (by simpa using hi) f hf]
      rfl
theorem flat_length {α : Type} (g : α → List Value) (k : Nat) (hg : ∀ x, (g x).length = k) (l : List α) : (l.flatMap g).length = l.length * k := by
  induction l with
  | nil => simp
  | cons x l ih => rw [List.flatMap_cons, List.length_append, hg, ih, List.length_cons, Nat.succ_mul]; omega
theorem flat_lt {α : Type} {g : α → List Value} {k : Nat} (hg : ∀ x, (g x).length = k) {l : List α} {j : Nat} {v : Value} (hk : 0 < k) (h : (l.flatMap g)[j]? = some v) : ∃ i f, ∃ hi : i < l.length, f < k ∧ j = i * k + f ∧ (g l[i])[f]? = some v := by
  have hj : j < l.length * k := by rw [← flat_length g k hg]; exact (List.getElem?_eq_some_iff.1 h).1
  have hi : j / k < l.length := Nat.div_lt_of_lt_mul (by rw [Nat.mul_comm]; exact hj)
  have hf : j % k < k := Nat.mod_lt _ hk
  have e : j = j / k * k + j % k := by rw [Nat.mul_comm]; exact (Nat.div_add_mod j k).symm
  refine ⟨j / k, j % k, hi, hf, e, ?_⟩
  rw [← flat_get g k hg l _ hi _ hf, ← e]
  exact h

section
variable {H : Type} {enc : TypeId × Value → H} {P : Program} {w : World}

/-- A slice of records: what each record's cells hold, and how each field reads. -/
theorem open_records {t e : TypeId} {fs : Array Field} {k fuel : Nat} {cs : List Value} {x : DataW H × List MemPlace} (ht : P.underlying t = some (.slice e)) (he : P.underlying e = some (.struct fs)) (ce : P.cellsOf e = k)
    (h : DataW.trod enc P w 0 (fun _ => true) true fuel t cs = some x) (hlt : ∀ p ∈ x.2, p.block < w.heap.size) :
    ∃ (A : Option Addr) (n cap m : Nat), cs = [.slice A n cap] ∧ n ≤ cap ∧ cap ≤ maxLen ∧ (0 < n * k → ∃ b off, A = some ⟨b, off, none⟩ ∧ b < w.heap.size) ∧ ∀ i, i < n → ∃ R : List Value, R.length = k ∧ (∀ b off, A = some ⟨b, off, none⟩ → ∀ f, f < k → w.cell? ⟨b, off + (i * k + f), none⟩ = R[f]?) ∧
      ∀ (j : Nat) (f : Field), fs[j]? = some f → ∃ y, DataW.trod enc P w 0 (fun _ => true) true m f.type ((R.drop f.offset).take (P.cellsOf f.type)) = some y ∧ ∀ p ∈ y.2, p.block < w.heap.size := by
  rcases open_slice ht h with ⟨rfl, rfl⟩ | ⟨a, len, cap, m, n, D, Pl, rfl, _, hl, hm, hmm, rfl, hx⟩
  · exact ⟨none, 0, 0, 0, rfl, Nat.le_refl _, Nat.zero_le _, fun h0 => by simp at h0, fun i hi => by omega⟩
  · simp only [if_true] at hmm
    subst hmm
    have hform : 0 < len * k → ∃ b off, (some a : Option Addr) = some ⟨b, off, none⟩ ∧ b < w.heap.size := by
      intro h0
      have hk : 0 < k := Nat.pos_of_mul_pos_left h0
      have hn : 0 < len := Nat.pos_of_mul_pos_right h0
      obtain ⟨cs', h1, _⟩ := hx 0 (by omega)
      rw [ce] at h1
      obtain ⟨_, hlen, hcell⟩ := World.cells?_some h1
      have hc0 := hcell 0 hk
      rw [Nat.zero_mul, add_add, Nat.add_zero, List.getElem?_eq_getElem (by omega)] at hc0
      obtain ⟨b, off, q⟩ := a
      have hq : q = none := by simpa [Addr.add] using World.cell?_spot hc0
      subst hq
      exact ⟨b, off, rfl, World.block_lt_of_cell? w _ (by simpa [Addr.add] using hc0)⟩
    refine ⟨some a, len, m, n - 1, rfl, hl, hm, hform, fun i hi => ?_⟩
    obtain ⟨cs', h1, h2⟩ := hx i (by omega)
    rw [ce] at h1
    obtain ⟨_, hlen, hcell⟩ := World.cells?_some h1
    obtain ⟨xs, n', hn', hxy, _, hxl, hf⟩ := DataW.trod_struct he h2
    refine ⟨cs', hlen, ?_, ?_⟩
    · rintro b off hA f hf'
      injection hA with hA
      subst hA
      have := hcell f hf'
      rw [add_add, Go.WideShapes.add_plain] at this
      exact this
    · intro j f hj
      have h3 := hf j f hj
      have hjl : j < xs.length := by rw [hxl]; exact (Array.getElem?_eq_some_iff.1 hj).1
      rw [List.getElem?_eq_getElem hjl] at h3
      rw [show n - 1 = n' by omega]
      refine ⟨xs[j], h3, fun p hp => hlt p ?_⟩
      refine List.mem_append_right _ (List.mem_flatMap.2 ⟨i, List.mem_range.2 (by omega), ?_⟩)
      simp only [Prod.mk.injEq] at hxy
      rw [hxy.2]
      exact List.mem_flatMap.2 ⟨xs[j], List.getElem_mem hjl, hp⟩
end
end Go.Proofs.Ytnadhpajelkngaa

/- Slices of ints that come in or go from call to call, nil among them: what they read as, in this world and in later ones; how such an argument is opened; a piece of one. Condition: no slice is longer than memory. -/
namespace Go.Proofs.Ytnadhpajelkngaa
open Go.ChangeShapes Go.WideShapes Go.ChangeAt Go.RowKit Go.Deep

theorem int_info : (Try.prog.info? 3).map (fun i => (i.zero, i.size, i.bytes)) = some (some (.int .i64 0), 1, 8) := by kernel_rfl
/-- The slice value with address A reads as these ints, and lies below the heap's end. -/
def IntsAt (w : World) (A : Option Addr) (l : List Int) : Prop :=
  l = [] ∨ ∃ b off, A = some ⟨b, off, none⟩ ∧ b < w.heap.size ∧ ∀ (j : Nat) (c : Int), l[j]? = some c → w.cell? ⟨b, off + j, none⟩ = some (.int .i64 c)
theorem IntsAt.below {w w' : World} {A : Option Addr} {l : List Int} (h : IntsAt w A l) (hb : Below w.heap.size w w') : IntsAt w' A l := by
  rcases h with h | ⟨b, off, hA, hlt, hc⟩
  · exact .inl h
  · exact .inr ⟨b, off, hA, Nat.lt_of_lt_of_le hlt hb.size, fun j c hj => (hb.cell (p := ⟨b, off + j, none⟩) hlt).trans (hc j c hj)⟩
theorem IntsAt.drew {w : World} {A : Option Addr} {l : List Int} (h : IntsAt w A l) : IntsAt w.drew A l := h
theorem IntsAt.nil {w : World} {A : Option Addr} : IntsAt w A [] := .inl rfl
theorem IntsAt.lit {w : World} {cs : Array Value} {t : TypeId} {fr : Nat × Nat} {l : List Int} {g : Nat} (hc : ∀ (j : Nat) (x : Int), l[j]? = some x → cs[j]? = some (Value.int .i64 x)) (hg : g = w.heap.size) : IntsAt (w.alloc (.cells cs t fr)) (some ⟨g, 0, none⟩) l := by
  subst hg
  exact .inr ⟨w.heap.size, 0, rfl, by simp, fun j x hx => by rw [Nat.zero_add, cell_of_row _ _ _ cs t fr (heap_alloc_new w _), hc j x hx]⟩
theorem IntsAt.alloc {w : World} {A : Option Addr} {l : List Int} (h : IntsAt w A l) (o : Obj) : IntsAt (w.alloc o) A l := h.below ((Below.refl _ _).alloc (Nat.le_refl _) _)
theorem IntsAt.cell {w : World} {b off : Nat} {l : List Int} (h : IntsAt w (some ⟨b, off, none⟩) l) {j : Nat} (hj : j < l.length) : w.cell? ⟨b, off + j, none⟩ = some (.int .i64 l[j]) := by
  rcases h with rfl | ⟨b', off', e, _, hc⟩
  · simp at hj
  · injection e with e
    injection e with e1 e2 e3
    subst e1 e2
    exact hc j _ (List.getElem?_eq_getElem hj)
theorem IntsAt.form {w : World} {A : Option Addr} {l : List Int} (h : IntsAt w A l) (h0 : 0 < l.length) : ∃ b off, A = some ⟨b, off, none⟩ ∧ b < w.heap.size := by
  rcases h with rfl | ⟨b, off, e, hlt, _⟩
  · simp at h0
  · exact ⟨b, off, e, hlt⟩
theorem IntsAt.take {w : World} {A : Option Addr} {l : List Int} (h : IntsAt w A l) (k : Nat) : IntsAt w A (l.take k) := by
  rcases h with rfl | ⟨b, off, e, hlt, hc⟩
  · exact .inl (by simp)
  · refine .inr ⟨b, off, e, hlt, fun j c hj => hc j c ?_⟩
    rw [List.getElem?_take] at hj
    split at hj
    · exact hj
    · cases hj
theorem IntsAt.drop {w : World} {b off : Nat} {l : List Int} (h : IntsAt w (some ⟨b, off, none⟩) l) (k : Nat) : IntsAt w (some ⟨b, off + k, none⟩) (l.drop k) := by
  rcases h with rfl | ⟨b', off', e, hlt, hc⟩
  · exact .inl (by simp)
  · injection e with e
    injection e with e1 e2 e3
    subst e1 e2
    refine .inr ⟨_, _, rfl, hlt, fun j c hj => ?_⟩
    rw [List.getElem?_drop] at hj
    rw [Nat.add_assoc]
    exact hc _ c hj

def is64 (l : List Int) : List Value := l.map fun x => .int .i64 x
theorem is64_length (l : List Int) : (is64 l).length = l.length := by simp [is64]
theorem is64_append (a b : List Int) : is64 (a ++ b) = is64 a ++ is64 b := by simp [is64]
theorem IntsAt.of_own {w : World} {base : Nat} {A : Option Addr} {l : List Int} {c n : Nat} (h : w.ownsRow base 3 1 (.slice A n c) n (is64 l)) (hn : n = l.length) : IntsAt w A l := by
  subst hn
  by_cases h0 : l.length = 0
  · exact .inl (List.eq_nil_of_length_eq_zero h0)
  · obtain ⟨g, cap, hv, _, hlt⟩ := h.form (by omega)
    injection hv with h1 h2 h3
    subst h1
    subst h3
    refine .inr ⟨g, 0, rfl, hlt, fun j x hx => ?_⟩
    have hj : j < l.length := (List.getElem?_eq_some_iff.1 hx).1
    rw [Nat.zero_add, h.cellAt j (by omega), is64, List.getElem?_map, hx]
    rfl

set_option maxRecDepth 100000 in
/-- An argument of type []int: what it reads as. -/
theorem open_intslice {H : Type} {enc : TypeId × Value → H} {w : World} {base : Nat} {v : Value} {d : DataW H} {p : List MemPlace} (hv : Value.okWide Try.prog w .any base 75 v)
    (h : DataW.Trod enc Try.prog w 0 (fun _ => true) true 75 v d p) (hlt : ∀ x ∈ p, x.block < w.heap.size) :
    ∃ A l c, v = .slice A (List.length l) c ∧ IntsAt w A l ∧ (∀ x ∈ l, -9223372036854775808 ≤ x ∧ x ≤ 9223372036854775807) ∧ l.length ≤ maxLen := by
  obtain ⟨a0, len, cap, rfl⟩ := okWide_slice Try.underlying75 hv
  obtain ⟨fuel, hf⟩ := h
  rcases open_ints Try.underlying75 Try.underlying3 (by kernel_rfl) hf with ⟨hcs, hx⟩ | ⟨a, len', cap', zs, hcs, _, hl, hm, hz, hx, hcell, hwz⟩
  · simp [Value.cells] at hcs
    obtain ⟨rfl, rfl, rfl⟩ := hcs
    exact ⟨none, [], 0, rfl, .inl rfl, by simp, by simp [maxLen]⟩
  · simp [Value.cells] at hcs
    obtain ⟨rfl, rfl, rfl⟩ := hcs
    simp only [Prod.mk.injEq] at hx
    obtain ⟨rfl, rfl⟩ := hx
    simp only [if_true] at hz
    have hw : ∀ z ∈ zs, -9223372036854775808 ≤ z ∧ z ≤ 9223372036854775807 := fun z hzz => by simpa [Lit.wf, IntKind.min, IntKind.max, IntKind.signed, IntKind.bits] using hwz z hzz
    have hlen : (zs.take len).length = len := by simp; omega
    refine ⟨some a, zs.take len, cap, by rw [hlen], ?_, fun x hx => hw x (List.mem_of_mem_take hx), by rw [hlen]; omega⟩
    by_cases h0 : len = 0
    · subst h0
      exact .inl (by simp)
    · have hzp : 0 < zs.length := by omega
      obtain ⟨b, off, rfl, hc⟩ := ints_at hcell hzp
      refine .inr ⟨b, off, rfl, hlt (.cell b (off + 0)) (MemPlace.mem_row.2 ⟨0, hzp, rfl⟩), fun j c hj => ?_⟩
      rw [List.getElem?_take] at hj
      split at hj
      · have hjl : j < zs.length := (List.getElem?_eq_some_iff.1 hj).1
        rw [hc j hjl, List.getD_eq_getElem?_getD, hj, Option.getD_some]
      · cases hj

end Go.Proofs.Ytnadhpajelkngaa

/- Records in slices that come in: an integer, a bool, a text out of a record's cells; records put together to one list. Condition: no slice and no text is longer than memory. -/
namespace Go.Proofs.Ytnadhpajelkngaa
open Go.ChangeShapes Go.WideShapes Go.ChangeAt Go.RowKit Go.Deep

/-- A number that an int may hold. -/
def Fit64 (n : Int) : Prop := -9223372036854775808 ≤ n ∧ n ≤ 9223372036854775807
/-- Bytes of a text. -/
def Bytes (l : List Nat) : Prop := (∀ x ∈ l, x < 256) ∧ l.length ≤ maxLen
section
variable {H : Type} {enc : TypeId × Value → H} {w : World}
theorem fit_of_wf {n : Int} (h : (Lit.int .i64 n).wf = true) : Fit64 n := by simpa [Fit64, Lit.wf, IntKind.min, IntKind.max, IntKind.signed, IntKind.bits] using h
theorem bytes_of (s : ByteArray) (h : s.size ≤ maxLen) : ∃ l, Bytes l ∧ s = bstr l := by
  obtain ⟨l, hl, rfl⟩ := bstr_any s
  exact ⟨l, ⟨hl, by rw [bstr_size] at h; exact h⟩, rfl⟩

/-- The records of a slice, one by one, put together to one list. -/
theorem cellsAt_of {α : Type} (cells : α → List Value) (k : Nat) (hk : 0 < k) (hc : ∀ x, (cells x).length = k) {A : Option Addr} {n : Nat} (f : Nat → α) (hform : 0 < n * k → ∃ b off, A = some ⟨b, off, none⟩ ∧ b < w.heap.size)
    (h : ∀ i, i < n → ∀ b off, A = some ⟨b, off, none⟩ → ∀ j, j < k → w.cell? ⟨b, off + (i * k + j), none⟩ = (cells (f i))[j]?) : CellsAt w A (((List.range n).map f).flatMap cells) := by
  by_cases h0 : n = 0
  · subst h0
    exact .inl rfl
  · obtain ⟨b, off, rfl, hb⟩ := hform (Nat.mul_pos (by omega) hk)
    refine .inr ⟨b, off, rfl, hb, fun j v hj => ?_⟩
    obtain ⟨i, q, hi, hq, rfl, hv⟩ := flat_lt hc hk hj
    rw [List.length_map, List.length_range] at hi
    rw [h i hi b off rfl q hq, ← hv]
    simp

theorem take_one {R : List Value} {o : Nat} {v : Value} (h : (R.drop o).take 1 = [v]) : R[o]? = some v := by
  have h2 := congrArg (fun l : List Value => l[0]?) h
  simpa using h2
set_option maxRecDepth 100000 in
theorem rec_int {R : List Value} {y : DataW H × List MemPlace} {m o : Nat} (h : DataW.trod enc Try.prog w 0 (fun _ => true) true m 3 ((R.drop o).take (Try.prog.cellsOf 3)) = some y) : ∃ n, R[o]? = some (.int .i64 n) ∧ Fit64 n := by
  obtain ⟨n, e, _, hw⟩ := DataW.trod_int Try.underlying3 h
  rw [show Try.prog.cellsOf 3 = 1 by kernel_rfl] at e
  exact ⟨n, take_one e, fit_of_wf hw⟩
set_option maxRecDepth 100000 in
theorem rec_bool {R : List Value} {y : DataW H × List MemPlace} {m o : Nat} (h : DataW.trod enc Try.prog w 0 (fun _ => true) true m 4 ((R.drop o).take (Try.prog.cellsOf 4)) = some y) : ∃ b, R[o]? = some (.bool b) := by
  obtain ⟨b, e, _⟩ := DataW.trod_bool Try.underlying4 h
  rw [show Try.prog.cellsOf 4 = 1 by kernel_rfl] at e
  exact ⟨b, take_one e⟩
set_option maxRecDepth 100000 in
theorem rec_text {R : List Value} {y : DataW H × List MemPlace} {m o : Nat} (h : DataW.trod enc Try.prog w 0 (fun _ => true) true m 9 ((R.drop o).take (Try.prog.cellsOf 9)) = some y) : ∃ l, R[o]? = some (.string (bstr l)) ∧ Bytes l := by
  obtain ⟨s, e, _, hs⟩ := DataW.trod_string Try.underlying9 h
  rw [show Try.prog.cellsOf 9 = 1 by kernel_rfl] at e
  obtain ⟨l, hl, rfl⟩ := bytes_of s hs
  exact ⟨l, take_one e, hl⟩
end
end Go.Proofs.Ytnadhpajelkngaa

/- Parts of edits that come in: what they hold, as which cells they lie, and how such arguments are opened. Condition: no slice and no text is longer than memory. -/
namespace Go.Proofs.Ytnadhpajelkngaa
open Go.ChangeShapes Go.WideShapes Go.ChangeAt Go.RowKit Go.Deep

/-- A part of an edit. -/
structure CompV where
  kind : Int
  n : Int
  text : List Nat
instance : Inhabited CompV := ⟨⟨0, 0, []⟩⟩
def CompV.Good (c : CompV) : Prop := Fit64 c.kind ∧ Fit64 c.n ∧ Bytes c.text
def compCells (c : CompV) : List Value := [.int .i64 c.kind, .int .i64 c.n, .string (bstr c.text)]
theorem compCells_length (c : CompV) : (compCells c).length = 3 := rfl
def CompsAt (w : World) (A : Option Addr) (l : List CompV) : Prop := CellsAt w A (l.flatMap compCells)
theorem CompsAt.below {w w' : World} {A : Option Addr} {l : List CompV} (h : CompsAt w A l) (hb : Below w.heap.size w w') : CompsAt w' A l := CellsAt.below h hb
theorem CompsAt.drew {w : World} {A : Option Addr} {l : List CompV} (h : CompsAt w A l) : CompsAt w.drew A l := CellsAt.drew h
theorem CompsAt.form {w : World} {A : Option Addr} {l : List CompV} (h : CompsAt w A l) (h0 : 0 < l.length) : ∃ b off, A = some ⟨b, off, none⟩ ∧ b < w.heap.size :=
  CellsAt.form h (by intro e; have := congrArg List.length e; rw [flat_length compCells 3 compCells_length] at this; simp at this; omega)
theorem CompsAt.at_ {w : World} {b off : Nat} {l : List CompV} (h : CompsAt w (some ⟨b, off, none⟩) l) {i : Nat} (hi : i < l.length) :
    w.cell? ⟨b, off + i * 3, none⟩ = some (.int .i64 l[i].kind) ∧ w.cell? ⟨b, off + i * 3 + 1, none⟩ = some (.int .i64 l[i].n) ∧ w.cell? ⟨b, off + i * 3 + 2, none⟩ = some (.string (bstr l[i].text)) := by
  refine ⟨?_, ?_, ?_⟩
  · exact CellsAt.cell h (j := i * 3 + 0) (by rw [flat_get compCells 3 compCells_length l i hi 0 (by omega)]; rfl)
  · rw [Nat.add_assoc]; exact CellsAt.cell h (by rw [flat_get compCells 3 compCells_length l i hi 1 (by omega)]; rfl)
  · rw [Nat.add_assoc]; exact CellsAt.cell h (by rw [flat_get compCells 3 compCells_length l i hi 2 (by omega)]; rfl)

section
variable {H : Type} {enc : TypeId × Value → H} {w : World}

set_option maxRecDepth 100000 in
theorem open_comps_cells {fuel : Nat} {cs : List Value} {x : DataW H × List MemPlace} (h : DataW.trod enc Try.prog w 0 (fun _ => true) true fuel 22 cs = some x) (hlt : ∀ p ∈ x.2, p.block < w.heap.size) :
    ∃ A l c, cs = [.slice A (List.length l) c] ∧ CompsAt w A l ∧ (∀ y ∈ l, y.Good) ∧ l.length ≤ c ∧ c ≤ maxLen := by
  obtain ⟨A, n, cap, m, rfl, hn, hcap, hform, hrec⟩ := open_records (k := 3) Try.underlying22 Try.underlying54 (by kernel_rfl) h hlt
  have each : ∀ i, i < n → ∃ y : CompV, y.Good ∧ ∀ b off, A = some ⟨b, off, none⟩ → ∀ j, j < 3 → w.cell? ⟨b, off + (i * 3 + j), none⟩ = (compCells y)[j]? := by
    intro i hi
    obtain ⟨R, hR, hcell, hf⟩ := hrec i hi
    obtain ⟨y0, h0, _⟩ := hf 0 _ rfl
    obtain ⟨y1, h1, _⟩ := hf 1 _ rfl
    obtain ⟨y2, h2, _⟩ := hf 2 _ rfl
    obtain ⟨k0, e0, w0⟩ := rec_int (o := 0) h0
    obtain ⟨k1, e1, w1⟩ := rec_int (o := 1) h1
    obtain ⟨l2, e2, w2⟩ := rec_text (o := 2) h2
    match R, hR with
    | [r0, r1, r2], _ =>
      simp only [List.getElem?_cons_zero, List.getElem?_cons_succ, Option.some.injEq] at e0 e1 e2
      subst e0 e1 e2
      exact ⟨⟨k0, k1, l2⟩, ⟨w0, w1, w2⟩, hcell⟩
  obtain ⟨f, hf⟩ := choose_lt each
  refine ⟨A, (List.range n).map f, cap, by simp, cellsAt_of compCells 3 (by omega) compCells_length f hform (fun i hi => (hf i hi).2), ?_, by simpa using hn, hcap⟩
  intro y hy
  obtain ⟨i, hi, rfl⟩ := List.mem_map.1 hy
  exact (hf i (List.mem_range.1 hi)).1
set_option maxRecDepth 100000 in
theorem open_comps {base : Nat} {v : Value} {d : DataW H} {p : List MemPlace} (hv : Value.okWide Try.prog w .any base 22 v) (h : DataW.Trod enc Try.prog w 0 (fun _ => true) true 22 v d p) (hlt : ∀ x ∈ p, x.block < w.heap.size) :
    ∃ A l c, v = .slice A (List.length l) c ∧ CompsAt w A l ∧ (∀ y ∈ l, y.Good) ∧ l.length ≤ c ∧ c ≤ maxLen := by
  obtain ⟨a0, len, cap, rfl⟩ := okWide_slice Try.underlying22 hv
  obtain ⟨fuel, hf⟩ := h
  obtain ⟨A, l, c, e, h1⟩ := open_comps_cells hf hlt
  simp only [Value.cells, List.cons.injEq, and_true] at e
  exact ⟨A, l, c, e, h1⟩
set_option maxRecDepth 100000 in
theorem rec_comps {R : List Value} {y : DataW H × List MemPlace} {m o : Nat} (h : DataW.trod enc Try.prog w 0 (fun _ => true) true m 22 ((R.drop o).take (Try.prog.cellsOf 22)) = some y) (hlt : ∀ p ∈ y.2, p.block < w.heap.size) :
    ∃ A l c, R[o]? = some (.slice A (List.length l) c) ∧ CompsAt w A l ∧ (∀ z ∈ l, z.Good) ∧ l.length ≤ c ∧ c ≤ maxLen := by
  obtain ⟨A, l, c, e, h1⟩ := open_comps_cells h hlt
  rw [show Try.prog.cellsOf 22 = 1 by kernel_rfl] at e
  exact ⟨A, l, c, take_one e, h1⟩
end
end Go.Proofs.Ytnadhpajelkngaa

/- Rows of the call's own: what they are in later worlds. No condition beyond those that each lemma states. -/
namespace Go.Proofs.Ytnadhpajelkngaa
open Go.RowKit Go.Deep

/-- A row of the call's own, in a later world. -/
theorem own_below {w w' : World} {base : Nat} {e : TypeId} {size : Nat} {v : Value} {n : Nat} {xs : List Value} (h : w.ownsRow base e size v n xs) (hb : Below w.heap.size w w') : w'.ownsRow base e size v n xs := by
  refine ⟨h.1, ?_⟩
  rcases h.2 with h2 | ⟨g', cap, cur, hv, hg, hh, h3, h4, h5⟩
  · exact .inl h2
  · have hlt : g' < w.heap.size := by
      rcases Nat.lt_or_ge g' w.heap.size with hlt | hge
      · exact hlt
      · rw [Array.getElem?_eq_none hge] at hh; cases hh
    exact .inr ⟨g', cap, cur, hv, hg, by rw [hb.block g' hlt]; exact hh, h3, h4, h5⟩
theorem Only.grown {g : Nat} {a w w' : World} {row : Option Nat} (h : Only g a w) (hg : w.grownBy w' row) (hr : ∀ k, row = some k → a.heap.size ≤ k) : Only g a w' :=
  ⟨hg.os.trans h.os, hg.tape.trans h.tape, hg.output.trans h.output, Nat.le_trans h.size hg.size, fun k hk hkg => (hg.block k (Nat.lt_of_lt_of_le hk h.size) (fun e => by have := hr k e.symm; omega)).trans (h.block k hk hkg)⟩
theorem own_only {w w' : World} {base g : Nat} {e : TypeId} {size : Nat} {v : Value} {n : Nat} {xs : List Value} (h : w.ownsRow base e size v n xs) (ho : Only g w w') (hg : g < base) : w'.ownsRow base e size v n xs := by
  refine ⟨h.1, ?_⟩
  rcases h.2 with h2 | ⟨g', cap, cur, hv, hgb, hh, h3, h4, h5⟩
  · exact .inl h2
  · have hlt : g' < w.heap.size := by
      rcases Nat.lt_or_ge g' w.heap.size with hlt | hge
      · exact hlt
      · rw [Array.getElem?_eq_none hge] at hh; cases hh
    exact .inr ⟨g', cap, cur, hv, hgb, by rw [ho.block g' hlt (by omega)]; exact hh, h3, h4, h5⟩
/-- Cells that lie in a row of the call's own. -/
theorem CellsAt.of_own {w : World} {base : Nat} {e : TypeId} {size : Nat} {A : Option Addr} {n c : Nat} {xs : List Value} (h : w.ownsRow base e size (.slice A n c) n xs) : CellsAt w A xs := by
  by_cases h0 : n = 0
  · subst h0
    exact .inl (List.eq_nil_of_length_eq_zero (by rw [h.1, Nat.zero_mul]))
  · obtain ⟨g, cap, hv, _, hlt⟩ := h.form (by omega)
    injection hv with h1 h2 h3
    subst h1
    subst h3
    refine .inr ⟨g, 0, rfl, hlt, fun j x hx => ?_⟩
    have := h.cells (g := g) rfl j x hx
    rw [Nat.zero_add]
    rw [Go.WideShapes.add_plain, Nat.zero_add] at this
    exact this
theorem own_base {w : World} {base base' : Nat} {e : TypeId} {size : Nat} {v : Value} {n : Nat} {xs : List Value} (h : w.ownsRow base e size v n xs) (hb : base' ≤ base) : w.ownsRow base' e size v n xs := by
  refine ⟨h.1, ?_⟩
  rcases h.2 with h2 | ⟨g', cap, cur, hv, hgb, hh, h3, h4, h5⟩
  · exact .inl h2
  · exact .inr ⟨g', cap, cur, hv, by omega, hh, h3, h4, h5⟩
/-- A row of another type than the one that has grown. -/
theorem own_grown {w w' : World} {base base2 : Nat} {e e2 : TypeId} {size size2 : Nat} {v v2 : Value} {n n2 : Nat} {xs xs2 : List Value} (h : w.ownsRow base e size v n xs) (h2 : w.ownsRow base2 e2 size2 v2 n2 xs2) (he : e ≠ e2) (hg : w.grownBy w' v2.ownBlock) : w'.ownsRow base e size v n xs := by
  refine ⟨h.1, ?_⟩
  rcases h.2 with h0 | ⟨g', cap, cur, hv, hgb, hh, h3, h4, h5⟩
  · exact .inl h0
  · have hlt : g' < w.heap.size := by
      rcases Nat.lt_or_ge g' w.heap.size with hlt | hge
      · exact hlt
      · rw [Array.getElem?_eq_none hge] at hh; cases hh
    refine .inr ⟨g', cap, cur, hv, hgb, ?_, h3, h4, h5⟩
    rw [hg.block g' hlt ?_]
    · exact hh
    · intro e0
      rcases h2.2 with ⟨rfl, _⟩ | ⟨g2, cap2, cur2, rfl, _, hh2, _⟩
      · simp [Value.ownBlock] at e0
      · simp [Value.ownBlock] at e0
        subst e0
        rw [hh] at hh2
        injection hh2 with hh2
        injection hh2 with _ hh2
        exact he hh2
theorem own_len {w : World} {base : Nat} {e : TypeId} {size : Nat} {v : Value} {n : Nat} {xs : List Value} (h : w.ownsRow base e size v n xs) : n ≤ maxLen := by
  rcases h.2 with ⟨_, h0⟩ | ⟨_, _, _, _, _, _, h1, h2, _⟩
  · rw [h0]; exact Nat.zero_le _
  · exact Nat.le_trans h1 h2
/-- A row of another type than the block that alone was written. -/
theorem own_only_type {w w' : World} {base gm : Nat} {e t : TypeId} {size sz : Nat} {v : Value} {n : Nat} {xs : List Value} {f : Nat → Value} (h : w.ownsRow base e size v n xs) (hr : w.rowIs gm t sz f) (he : e ≠ t) (ho : Only gm w w') : w'.ownsRow base e size v n xs := by
  refine ⟨h.1, ?_⟩
  rcases h.2 with h2 | ⟨g', cap, cur, hv, hgb, hh, h3, h4, h5⟩
  · exact .inl h2
  · have hlt : g' < w.heap.size := by
      rcases Nat.lt_or_ge g' w.heap.size with hlt | hge
      · exact hlt
      · rw [Array.getElem?_eq_none hge] at hh; cases hh
    have hne : g' ≠ gm := by
      intro e0
      subst e0
      obtain ⟨c, hc, _⟩ := hr
      rw [hh] at hc
      injection hc with hc
      injection hc with _ hc
      exact he hc
    exact .inr ⟨g', cap, cur, hv, hgb, by rw [ho.block g' hlt hne]; exact hh, h3, h4, h5⟩
end Go.Proofs.Ytnadhpajelkngaa

/- A row of cells that was just laid. No condition. -/
namespace Go.Proofs.Ytnadhpajelkngaa
open Go.RowKit Go.Deep

theorem CellsAt.lit {w : World} {cs : Array Value} {t : TypeId} {fr : Nat × Nat} {l : List Value} {g : Nat} (hc : ∀ (j : Nat) (v : Value), l[j]? = some v → cs[j]? = some v) (hg : g = w.heap.size) : CellsAt (w.alloc (.cells cs t fr)) (some ⟨g, 0, none⟩) l := by
  subst hg
  exact .inr ⟨w.heap.size, 0, rfl, by simp, fun j v hv => by rw [Nat.zero_add, cell_of_row _ _ _ cs t fr (heap_alloc_new w _), hc j v hv]⟩
end Go.Proofs.Ytnadhpajelkngaa

/- Acts and nodes that come in: what they hold, as which cells they lie, and how such arguments are opened. Condition: no slice and no text is longer than memory. -/
namespace Go.Proofs.Ytnadhpajelkngaa
open Go.ChangeShapes Go.WideShapes Go.ChangeAt Go.RowKit Go.Deep

/-- A node. -/
structure NodeV where
  id : Int
  parent : Int
  name : List Nat
  dir : Bool
  text : List Nat
instance : Inhabited NodeV := ⟨⟨0, 0, [], false, []⟩⟩
def NodeV.Good (c : NodeV) : Prop := Fit64 c.id ∧ Fit64 c.parent ∧ Bytes c.name ∧ Bytes c.text
def nodeCells (c : NodeV) : List Value := [.int .i64 c.id, .int .i64 c.parent, .string (bstr c.name), .bool c.dir, .string (bstr c.text)]
theorem nodeCells_length (c : NodeV) : (nodeCells c).length = 5 := rfl
def NodesAt (w : World) (A : Option Addr) (l : List NodeV) : Prop := CellsAt w A (l.flatMap nodeCells)
theorem NodesAt.below {w w' : World} {A : Option Addr} {l : List NodeV} (h : NodesAt w A l) (hb : Below w.heap.size w w') : NodesAt w' A l := CellsAt.below h hb
theorem NodesAt.drew {w : World} {A : Option Addr} {l : List NodeV} (h : NodesAt w A l) : NodesAt w.drew A l := CellsAt.drew h
theorem NodesAt.form {w : World} {A : Option Addr} {l : List NodeV} (h : NodesAt w A l) (h0 : 0 < l.length) : ∃ b off, A = some ⟨b, off, none⟩ ∧ b < w.heap.size :=
  CellsAt.form h (by intro e; have := congrArg List.length e; rw [flat_length nodeCells 5 nodeCells_length] at this; simp at this; omega)
theorem NodesAt.at_ {w : World} {b off : Nat} {l : List NodeV} (h : NodesAt w (some ⟨b, off, none⟩) l) {i : Nat} (hi : i < l.length) :
    w.cell? ⟨b, off + i * 5, none⟩ = some (.int .i64 l[i].id) ∧ w.cell? ⟨b, off + i * 5 + 1, none⟩ = some (.int .i64 l[i].parent) ∧ w.cell? ⟨b, off + i * 5 + 2, none⟩ = some (.string (bstr l[i].name)) ∧
      w.cell? ⟨b, off + i * 5 + 3, none⟩ = some (.bool l[i].dir) ∧ w.cell? ⟨b, off + i * 5 + 4, none⟩ = some (.string (bstr l[i].text)) := by
  refine ⟨?_, ?_, ?_, ?_, ?_⟩
  · exact CellsAt.cell h (j := i * 5 + 0) (by rw [flat_get nodeCells 5 nodeCells_length l i hi 0 (by omega)]; rfl)
  · rw [Nat.add_assoc]; exact CellsAt.cell h (by rw [flat_get nodeCells 5 nodeCells_length l i hi 1 (by omega)]; rfl)
  · rw [Nat.add_assoc]; exact CellsAt.cell h (by rw [flat_get nodeCells 5 nodeCells_length l i hi 2 (by omega)]; rfl)
  · rw [Nat.add_assoc]; exact CellsAt.cell h (by rw [flat_get nodeCells 5 nodeCells_length l i hi 3 (by omega)]; rfl)
  · rw [Nat.add_assoc]; exact CellsAt.cell h (by rw [flat_get nodeCells 5 nodeCells_length l i hi 4 (by omega)]; rfl)
section
variable {H : Type} {enc : TypeId × Value → H} {w : World}
end

/-- An act. -/
structure ActV where
  kind : Int
  id : Int
  parent : Int
  name : List Nat
  dir : Bool
  opsA : Option Addr
  opsC : Nat
  ops : List CompV
instance : Inhabited ActV := ⟨⟨0, 0, 0, [], false, none, 0, []⟩⟩
def ActV.Good (c : ActV) : Prop := Fit64 c.kind ∧ Fit64 c.id ∧ Fit64 c.parent ∧ Bytes c.name ∧ (∀ y ∈ c.ops, y.Good) ∧ c.ops.length ≤ c.opsC ∧ c.opsC ≤ maxLen
def actCells (c : ActV) : List Value := [.int .i64 c.kind, .int .i64 c.id, .int .i64 c.parent, .string (bstr c.name), .bool c.dir, .slice c.opsA c.ops.length c.opsC]
theorem actCells_length (c : ActV) : (actCells c).length = 6 := rfl
def ActsAt (w : World) (A : Option Addr) (l : List ActV) : Prop := CellsAt w A (l.flatMap actCells) ∧ ∀ y ∈ l, CompsAt w y.opsA y.ops
theorem ActsAt.below {w w' : World} {A : Option Addr} {l : List ActV} (h : ActsAt w A l) (hb : Below w.heap.size w w') : ActsAt w' A l := ⟨CellsAt.below h.1 hb, fun y hy => (h.2 y hy).below hb⟩
theorem ActsAt.drew {w : World} {A : Option Addr} {l : List ActV} (h : ActsAt w A l) : ActsAt w.drew A l := h
theorem ActsAt.form {w : World} {A : Option Addr} {l : List ActV} (h : ActsAt w A l) (h0 : 0 < l.length) : ∃ b off, A = some ⟨b, off, none⟩ ∧ b < w.heap.size :=
  CellsAt.form h.1 (by intro e; have := congrArg List.length e; rw [flat_length actCells 6 actCells_length] at this; simp at this; omega)
theorem ActsAt.at_ {w : World} {b off : Nat} {l : List ActV} (h : ActsAt w (some ⟨b, off, none⟩) l) {i : Nat} (hi : i < l.length) :
    w.cell? ⟨b, off + i * 6, none⟩ = some (.int .i64 l[i].kind) ∧ w.cell? ⟨b, off + i * 6 + 1, none⟩ = some (.int .i64 l[i].id) ∧ w.cell? ⟨b, off + i * 6 + 2, none⟩ = some (.int .i64 l[i].parent) ∧
      w.cell? ⟨b, off + i * 6 + 3, none⟩ = some (.string (bstr l[i].name)) ∧ w.cell? ⟨b, off + i * 6 + 4, none⟩ = some (.bool l[i].dir) ∧ w.cell? ⟨b, off + i * 6 + 5, none⟩ = some (.slice l[i].opsA l[i].ops.length l[i].opsC) := by
  refine ⟨?_, ?_, ?_, ?_, ?_, ?_⟩
  · exact CellsAt.cell h.1 (j := i * 6 + 0) (by rw [flat_get actCells 6 actCells_length l i hi 0 (by omega)]; rfl)
  · rw [Nat.add_assoc]; exact CellsAt.cell h.1 (by rw [flat_get actCells 6 actCells_length l i hi 1 (by omega)]; rfl)
  · rw [Nat.add_assoc]; exact CellsAt.cell h.1 (by rw [flat_get actCells 6 actCells_length l i hi 2 (by omega)]; rfl)
  · rw [Nat.add_assoc]; exact CellsAt.cell h.1 (by rw [flat_get actCells 6 actCells_length l i hi 3 (by omega)]; rfl)
  · rw [Nat.add_assoc]; exact CellsAt.cell h.1 (by rw [flat_get actCells 6 actCells_length l i hi 4 (by omega)]; rfl)
  · rw [Nat.add_assoc]; exact CellsAt.cell h.1 (by rw [flat_get actCells 6 actCells_length l i hi 5 (by omega)]; rfl)
section
variable {H : Type} {enc : TypeId × Value → H} {w : World}
set_option maxRecDepth 100000 in
theorem open_acts_cells {fuel : Nat} {cs : List Value} {x : DataW H × List MemPlace} (h : DataW.trod enc Try.prog w 0 (fun _ => true) true fuel 32 cs = some x) (hlt : ∀ p ∈ x.2, p.block < w.heap.size) :
    ∃ A l c, cs = [.slice A (List.length l) c] ∧ ActsAt w A l ∧ (∀ y ∈ l, y.Good) ∧ l.length ≤ c ∧ c ≤ maxLen := by
  obtain ⟨A, n, cap, m, rfl, hn, hcap, hform, hrec⟩ := open_records (k := 6) Try.underlying32 Try.underlying31 (by kernel_rfl) h hlt
  have each : ∀ i, i < n → ∃ y : ActV, (y.Good ∧ CompsAt w y.opsA y.ops) ∧ ∀ b off, A = some ⟨b, off, none⟩ → ∀ j, j < 6 → w.cell? ⟨b, off + (i * 6 + j), none⟩ = (actCells y)[j]? := by
    intro i hi
    obtain ⟨R, hR, hcell, hf⟩ := hrec i hi
    obtain ⟨y0, h0, _⟩ := hf 0 _ rfl
    obtain ⟨y1, h1, _⟩ := hf 1 _ rfl
    obtain ⟨y2, h2, _⟩ := hf 2 _ rfl
    obtain ⟨y3, h3, _⟩ := hf 3 _ rfl
    obtain ⟨y4, h4, _⟩ := hf 4 _ rfl
    obtain ⟨y5, h5, p5⟩ := hf 5 _ rfl
    obtain ⟨k0, e0, w0⟩ := rec_int (o := 0) h0
    obtain ⟨k1, e1, w1⟩ := rec_int (o := 1) h1
    obtain ⟨k2, e2, w2⟩ := rec_int (o := 2) h2
    obtain ⟨l3, e3, w3⟩ := rec_text (o := 3) h3
    obtain ⟨b4, e4⟩ := rec_bool (o := 4) h4
    obtain ⟨A5, l5, c5, e5, at5, g5, n5, m5⟩ := rec_comps (o := 5) h5 p5
    match R, hR with
    | [r0, r1, r2, r3, r4, r5], _ =>
      simp only [List.getElem?_cons_zero, List.getElem?_cons_succ, Option.some.injEq] at e0 e1 e2 e3 e4 e5
      subst e0 e1 e2 e3 e4 e5
      exact ⟨⟨k0, k1, k2, l3, b4, A5, c5, l5⟩, ⟨⟨w0, w1, w2, w3, g5, n5, m5⟩, at5⟩, hcell⟩
  obtain ⟨f, hf⟩ := choose_lt each
  refine ⟨A, (List.range n).map f, cap, by simp, ⟨cellsAt_of actCells 6 (by omega) actCells_length f hform (fun i hi => (hf i hi).2), ?_⟩, ?_, by simpa using hn, hcap⟩
  · intro y hy
    obtain ⟨i, hi, rfl⟩ := List.mem_map.1 hy
    exact (hf i (List.mem_range.1 hi)).1.2
  · intro y hy
    obtain ⟨i, hi, rfl⟩ := List.mem_map.1 hy
    exact (hf i (List.mem_range.1 hi)).1.1
set_option maxRecDepth 100000 in
theorem rec_acts {R : List Value} {y : DataW H × List MemPlace} {m o : Nat} (h : DataW.trod enc Try.prog w 0 (fun _ => true) true m 32 ((R.drop o).take (Try.prog.cellsOf 32)) = some y) (hlt : ∀ p ∈ y.2, p.block < w.heap.size) :
    ∃ A l c, R[o]? = some (.slice A (List.length l) c) ∧ ActsAt w A l ∧ (∀ z ∈ l, z.Good) ∧ l.length ≤ c ∧ c ≤ maxLen := by
  obtain ⟨A, l, c, e, h1⟩ := open_acts_cells h hlt
  rw [show Try.prog.cellsOf 32 = 1 by kernel_rfl] at e
  exact ⟨A, l, c, take_one e, h1⟩
end
end Go.Proofs.Ytnadhpajelkngaa

/- A row that is known cell by cell is known whole. No condition. -/
namespace Go.Proofs.Ytnadhpajelkngaa
open Go.RowKit Go.Deep

theorem rowIs_cells {w : World} {b : Nat} {t : TypeId} {f : Nat → Value} (cs : Array Value) (h : w.rowIs b t cs.size f) (hc : ∀ i, i < cs.size → cs[i]? = some (f i)) : w.heap[b]? = some (.cells cs t (0, 0)) := by
  obtain ⟨c, hb, hs, hf⟩ := h
  have e : c = cs := by
    apply Array.ext hs
    intro i h1 h2
    have h3 := hf i h2
    have h4 := hc i h2
    rw [Array.getElem?_eq_getElem h1] at h3
    rw [Array.getElem?_eq_getElem h2] at h4
    injection h3 with h3
    injection h4 with h4
    rw [h3, h4]
  rw [← e]
  exact hb
end Go.Proofs.Ytnadhpajelkngaa
