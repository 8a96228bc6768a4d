/- The contract of the statements' own small, over the items that they are called with: it tells whether their weight is within 3000; what was there stays as it was. Condition: no slice and no text is longer than memory. (Merged of 11 texts.) -/
import Derived.Test.YtkapfijokmajlaaQBase
import Derived.Deep.Slices
import Derived.Test.YtkapfijokmajlaaQUtf
import Derived.Test.YtkapfijokmajlaaQNum
/- Slices of records that come in, nil among them: the cells that they read as, in this world and in later ones; how such an argument is opened, record by record. Condition: no slice is longer than memory. -/
namespace Go.Proofs.Ytkapfijokmajlaa
open Go.ChangeShapes Go.WideShapes Go.ChangeAt Go.RowKit Go.Deep

/-- The cells from A on hold these values, and lie below the heap's end. -/
def CellsAt (w : World) (A : Option Addr) (l : List Value) : Prop :=
  l = [] ∨ ∃ b off, A = some ⟨b, off, none⟩ ∧ b < w.heap.size ∧ ∀ (j : Nat) (v : Value), l[j]? = some v → w.cell? ⟨b, off + j, none⟩ = some v
theorem CellsAt.below {w w' : World} {A : Option Addr} {l : List Value} (h : CellsAt w A l) (hb : Below w.heap.size w w') : CellsAt w' A l := by
  rcases h with h | ⟨b, off, hA, hlt, hc⟩
  · exact .inl h
  · exact .inr ⟨b, off, hA, Nat.lt_of_lt_of_le hlt hb.size, fun j c hj => (hb.cell (p := ⟨b, off + j, none⟩) hlt).trans (hc j c hj)⟩
theorem CellsAt.drew {w : World} {A : Option Addr} {l : List Value} (h : CellsAt w A l) : CellsAt w.drew A l := h
theorem CellsAt.alloc {w : World} {A : Option Addr} {l : List Value} (h : CellsAt w A l) (o : Obj) : CellsAt (w.alloc o) A l := h.below ((Below.refl _ _).alloc (Nat.le_refl _) _)
theorem CellsAt.form {w : World} {A : Option Addr} {l : List Value} (h : CellsAt w A l) (h0 : l ≠ []) : ∃ b off, A = some ⟨b, off, none⟩ ∧ b < w.heap.size := by
  rcases h with h | ⟨b, off, e, hlt, _⟩
  · exact absurd h h0
  · exact ⟨b, off, e, hlt⟩
theorem CellsAt.cell {w : World} {b off : Nat} {l : List Value} (h : CellsAt w (some ⟨b, off, none⟩) l) {j : Nat} {v : Value} (hj : l[j]? = some v) : w.cell? ⟨b, off + j, none⟩ = some v := by
  rcases h with rfl | ⟨b', off', e, _, hc⟩
  · simp at hj
  · injection e with e
    injection e with e1 e2 e3
    subst e1 e2
    exact hc j v hj

theorem flat_get {α : Type} (g : α → List Value) (k : Nat) (hg : ∀ x, (g x).length = k) : ∀ (l : List α) (i : Nat) (hi : i < l.length) (f : Nat), f < k → (l.flatMap g)[i * k + f]? = (g l[i])[f]? := by
  intro l
  induction l with
  | nil => intro i hi; simp at hi
  | cons x l ih =>
    intro i hi f hf
    rw [List.flatMap_cons]
    cases i with
    | zero => rw [Nat.zero_mul, Nat.zero_add, List.getElem?_append_left (by rw [hg]; exact hf)]; rfl
    | succ i =>
      rw [List.getElem?_append_right (by rw [hg, Nat.succ_mul]; omega), hg, show (i + 1) * k + f - k = i * k + f by rw [Nat.succ_mul]; omega, ih i (by simpa using hi) f hf]
      rfl
theorem flat_length {α : Type} (g : α → List Value) (k : Nat) (hg : ∀ x, (g x).length = k) (l : List α) : (l.flatMap g).length = l.length * k := by
  induction l with
  | nil => simp
  | cons x l ih => rw [List.flatMap_cons, List.length_append, hg, ih, List.length_cons, Nat.succ_mul]; omega
theorem flat_lt {α : Type} {g : α → List Value} {k : Nat} (hg : ∀ x, (g x).length = k) {l : List α} {j : Nat} {v : Value} (hk : 0 < k) (h : (l.flatMap g)[j]? = some v) : ∃ i f, ∃ hi : i < l.length, f < k ∧ j = i * k + f ∧ (g l[i])[f]? = some v := by
  have hj : j < l.length * k := by rw [← flat_length g k hg]; exact (List.getElem?_eq_some_iff.1 h).1
  have hi : j / k < l.length := Nat.div_lt_of_lt_mul (by rw [Nat.mul_comm]; exact hj)
  have hf : j % k < k := Nat.mod_lt _ hk
  have e : j = j / k * k + j % k := by rw [Nat.mul_comm]; exact (Nat.div_add_mod j k).symm
  refine ⟨j / k, j % k, hi, hf, e, ?_⟩
  rw [← flat_get g k hg l _ hi _ hf, ← e]
  exact h

section
variable {H : Type} {enc : TypeId × Value → H} {P : Program} {w : World}

/-- A slice of records: what each record's cells hold, and how each field reads. -/
theorem open_records {t e : TypeId} {fs : Array Field} {k fuel : Nat} {cs : List Value} {x : DataW H × List MemPlace} (ht : P.underlying t = some (.slice e)) (he : P.underlying e = some (.struct fs)) (ce : P.cellsOf e = k)
    (h : DataW.trod enc P w 0 (fun _ => true) true fuel t cs = some x) (hlt : ∀ p ∈ x.2, p.block < w.heap.size) :
    ∃ (A : Option Addr) (n cap m : Nat), cs = [.slice A n cap] ∧ n ≤ cap ∧ cap ≤ maxLen ∧ (0 < n * k → ∃ b off, A = some ⟨b, off, none⟩ ∧ b < w.heap.size) ∧ ∀ i, i < n → ∃ R : List Value, R.length = k ∧ (∀ b off, A = some ⟨b, off, none⟩ → ∀ f, f < k → w.cell? ⟨b, off + (i * k + f), none⟩ = R[f]?) ∧
      ∀ (j : Nat) (f : Field), fs[j]? = some f → ∃ y, DataW.trod enc P w 0 (fun _ => true) true m f.type ((R.drop f.offset).take (P.cellsOf f.type)) = some y ∧ ∀ p ∈ y.2, p.block < w.heap.size := by
  rcases open_slice ht h with ⟨rfl, rfl⟩ | ⟨a, len, cap, m, n, D, Pl, rfl, _, hl, hm, hmm, rfl, hx⟩
  · exact ⟨none, 0, 0, 0, rfl, Nat.le_refl _, Nat.zero_le _, fun h0 => by simp at h0, fun i hi => by omega⟩
  · simp only [if_true] at hmm
    subst hmm
    have hform : 0 < len * k → ∃ b off, (some a : Option Addr) = some ⟨b, off, none⟩ ∧ b < w.heap.size := by
      intro h0
      have hk : 0 < k := Nat.pos_of_mul_pos_left h0
      have hn : 0 < len := Nat.pos_of_mul_pos_right h0
      obtain ⟨cs', h1, _⟩ := hx 0 (by omega)
      rw [ce] at h1
      obtain ⟨_, hlen, hcell⟩ := World.cells?_some h1
      have hc0 := hcell 0 hk
      rw [Nat.zero_mul, add_add, Nat.add_zero, List.getElem?_eq_getElem (by omega)] at hc0
      obtain ⟨b, off, q⟩ := a
      have hq : q = none := by simpa [Addr.add] using World.cell?_spot hc0
      subst hq
      exact ⟨b, off, rfl, World.block_lt_of_cell? w _ (by simpa [Addr.add] using hc0)⟩
    refine ⟨some a, len, m, n - 1, rfl, hl, hm, hform, fun i hi => ?_⟩
    obtain ⟨cs', h1, h2⟩ := hx i (by omega)
    rw [ce] at h1
    obtain ⟨_, hlen, hcell⟩ := World.cells?_some h1
    obtain ⟨xs, n', hn', hxy, _, hxl, hf⟩ := DataW.trod_struct he h2
    refine ⟨cs', hlen, ?_, ?_⟩
    · rintro b off hA f hf'
      injection hA with hA
      subst hA
      have := hcell f hf'
      rw [add_add, Go.WideShapes.add_plain] at this
      exact this
    · intro j f hj
      have h3 := hf j f hj
      have hjl : j < xs.length := by rw [hxl]; exact (Array.getElem?_eq_some_iff.1 hj).1
      rw [List.getElem?_eq_getElem hjl] at h3
      rw [show n - 1 = n' by omega]
      refine ⟨xs[j], h3, fun p hp => hlt p ?_⟩
      refine List.mem_append_right _ (List.mem_flatMap.2 ⟨i, List.mem_range.2 (by omega), ?_⟩)
      simp only [Prod.mk.injEq] at hxy
      rw [hxy.2]
      exact List.mem_flatMap.2 ⟨xs[j], List.getElem_mem hjl, hp⟩
end
end Go.Proofs.Ytkapfijokmajlaa

/- Parts of edits, acts and nodes that come in: what they hold, as which cells they lie, and how such arguments are opened. Condition: no slice and no text is longer than memory. -/
namespace Go.Proofs.Ytkapfijokmajlaa
open Go.ChangeShapes Go.WideShapes Go.ChangeAt Go.RowKit Go.Deep

/-- A number that an int may hold. -/
def Fit64 (n : Int) : Prop := -9223372036854775808 ≤ n ∧ n ≤ 9223372036854775807
/-- Bytes of a text. -/
def Bytes (l : List Nat) : Prop := (∀ x ∈ l, x < 256) ∧ l.length ≤ maxLen

/-- A part of an edit. -/
structure CompV where
  kind : Int
  n : Int
  text : List Nat
instance : Inhabited CompV := ⟨⟨0, 0, []⟩⟩
def CompV.Good (c : CompV) : Prop := Fit64 c.kind ∧ Fit64 c.n ∧ Bytes c.text
def compCells (c : CompV) : List Value := [.int .i64 c.kind, .int .i64 c.n, .string (bstr c.text)]
theorem compCells_length (c : CompV) : (compCells c).length = 3 := rfl
def CompsAt (w : World) (A : Option Addr) (l : List CompV) : Prop := CellsAt w A (l.flatMap compCells)
theorem CompsAt.below {w w' : World} {A : Option Addr} {l : List CompV} (h : CompsAt w A l) (hb : Below w.heap.size w w') : CompsAt w' A l := CellsAt.below h hb
theorem CompsAt.drew {w : World} {A : Option Addr} {l : List CompV} (h : CompsAt w A l) : CompsAt w.drew A l := CellsAt.drew h
theorem CompsAt.form {w : World} {A : Option Addr} {l : List CompV} (h : CompsAt w A l) (h0 : 0 < l.length) : ∃ b off, A = some ⟨b, off, none⟩ ∧ b < w.heap.size :=
  CellsAt.form h (by intro e; have := congrArg List.length e; rw [flat_length compCells 3 compCells_length] at this; simp at this; omega)
theorem CompsAt.at_ {w : World} {b off : Nat} {l : List CompV} (h : CompsAt w (some ⟨b, off, none⟩) l) {i : Nat} (hi : i < l.length) :
    w.cell? ⟨b, off + i * 3, none⟩ = some (.int .i64 l[i].kind) ∧ w.cell? ⟨b, off + i * 3 + 1, none⟩ = some (.int .i64 l[i].n) ∧ w.cell? ⟨b, off + i * 3 + 2, none⟩ = some (.string (bstr l[i].text)) := by
  refine ⟨?_, ?_, ?_⟩
  · exact CellsAt.cell h (j := i * 3 + 0) (by rw [flat_get compCells 3 compCells_length l i hi 0 (by omega)]; rfl)
  · rw [Nat.add_assoc]; exact CellsAt.cell h (by rw [flat_get compCells 3 compCells_length l i hi 1 (by omega)]; rfl)
  · rw [Nat.add_assoc]; exact CellsAt.cell h (by rw [flat_get compCells 3 compCells_length l i hi 2 (by omega)]; rfl)

section
variable {H : Type} {enc : TypeId × Value → H} {w : World}
theorem fit_of_wf {n : Int} (h : (Lit.int .i64 n).wf = true) : Fit64 n := by simpa [Fit64, Lit.wf, IntKind.min, IntKind.max, IntKind.signed, IntKind.bits] using h
theorem bytes_of (s : ByteArray) (h : s.size ≤ maxLen) : ∃ l, Bytes l ∧ s = bstr l := by
  obtain ⟨l, hl, rfl⟩ := bstr_any s
  exact ⟨l, ⟨hl, by rw [bstr_size] at h; exact h⟩, rfl⟩

/-- The records of a slice, one by one, put together to one list. -/
theorem cellsAt_of {α : Type} (cells : α → List Value) (k : Nat) (hk : 0 < k) (hc : ∀ x, (cells x).length = k) {A : Option Addr} {n : Nat} (f : Nat → α) (hform : 0 < n * k → ∃ b off, A = some ⟨b, off, none⟩ ∧ b < w.heap.size)
    (h : ∀ i, i < n → ∀ b off, A = some ⟨b, off, none⟩ → ∀ j, j < k → w.cell? ⟨b, off + (i * k + j), none⟩ = (cells (f i))[j]?) : CellsAt w A (((List.range n).map f).flatMap cells) := by
  by_cases h0 : n = 0
  · subst h0
    exact .inl rfl
  · obtain ⟨b, off, rfl, hb⟩ := hform (Nat.mul_pos (by omega) hk)
    refine .inr ⟨b, off, rfl, hb, fun j v hj => ?_⟩
    obtain ⟨i, q, hi, hq, rfl, hv⟩ := flat_lt hc hk hj
    rw [List.length_map, List.length_range] at hi
    rw [h i hi b off rfl q hq, ← hv]
    simp

theorem take_one {R : List Value} {o : Nat} {v : Value} (h : (R.drop o).take 1 = [v]) : R[o]? = some v := by
  have h2 := congrArg (fun l : List Value => l[0]?) h
  simpa using h2
set_option maxRecDepth 100000 in
theorem rec_int {R : List Value} {y : DataW H × List MemPlace} {m o : Nat} (h : DataW.trod enc Try.prog w 0 (fun _ => true) true m 3 ((R.drop o).take (Try.prog.cellsOf 3)) = some y) : ∃ n, R[o]? = some (.int .i64 n) ∧ Fit64 n := by
  obtain ⟨n, e, _, hw⟩ := DataW.trod_int Try.underlying3 h
  rw [show Try.prog.cellsOf 3 = 1 by kernel_rfl] at e
  exact ⟨n, take_one e, fit_of_wf hw⟩
set_option maxRecDepth 100000 in
theorem rec_bool {R : List Value} {y : DataW H × List MemPlace} {m o : Nat} (h : DataW.trod enc Try.prog w 0 (fun _ => true) true m 4 ((R.drop o).take (Try.prog.cellsOf 4)) = some y) : ∃ b, R[o]? = some (.bool b) := by
  obtain ⟨b, e, _⟩ := DataW.trod_bool Try.underlying4 h
  rw [show Try.prog.cellsOf 4 = 1 by kernel_rfl] at e
  exact ⟨b, take_one e⟩
set_option maxRecDepth 100000 in
theorem rec_text {R : List Value} {y : DataW H × List MemPlace} {m o : Nat} (h : DataW.trod enc Try.prog w 0 (fun _ => true) true m 9 ((R.drop o).take (Try.prog.cellsOf 9)) = some y) : ∃ l, R[o]? = some (.string (bstr l)) ∧ Bytes l := by
  obtain ⟨s, e, _, hs⟩ := DataW.trod_string Try.underlying9 h
  rw [show Try.prog.cellsOf 9 = 1 by kernel_rfl] at e
  obtain ⟨l, hl, rfl⟩ := bytes_of s hs
  exact ⟨l, take_one e, hl⟩

set_option maxRecDepth 100000 in
theorem open_comps_cells {fuel : Nat} {cs : List Value} {x : DataW H × List MemPlace} (h : DataW.trod enc Try.prog w 0 (fun _ => true) true fuel 41 cs = some x) (hlt : ∀ p ∈ x.2, p.block < w.heap.size) :
    ∃ A l c, cs = [.slice A (List.length l) c] ∧ CompsAt w A l ∧ (∀ y ∈ l, y.Good) ∧ l.length ≤ c ∧ c ≤ maxLen := by
  obtain ⟨A, n, cap, m, rfl, hn, hcap, hform, hrec⟩ := open_records (k := 3) Try.underlying41 Try.underlying94 (by kernel_rfl) h hlt
  have each : ∀ i, i < n → ∃ y : CompV, y.Good ∧ ∀ b off, A = some ⟨b, off, none⟩ → ∀ j, j < 3 → w.cell? ⟨b, off + (i * 3 + j), none⟩ = (compCells y)[j]? := by
    intro i hi
    obtain ⟨R, hR, hcell, hf⟩ := hrec i hi
    obtain ⟨y0, h0, _⟩ := hf 0 _ rfl
    obtain ⟨y1, h1, _⟩ := hf 1 _ rfl
    obtain ⟨y2, h2, _⟩ := hf 2 _ rfl
    obtain ⟨k0, e0, w0⟩ := rec_int (o := 0) h0
    obtain ⟨k1, e1, w1⟩ := rec_int (o := 1) h1
    obtain ⟨l2, e2, w2⟩ := rec_text (o := 2) h2
    match R, hR with
    | [r0, r1, r2], _ =>
      simp only [List.getElem?_cons_zero, List.getElem?_cons_succ, Option.some.injEq] at e0 e1 e2
      subst e0 e1 e2
      exact ⟨⟨k0, k1, l2⟩, ⟨w0, w1, w2⟩, hcell⟩
  obtain ⟨f, hf⟩ := choose_lt each
  refine ⟨A, (List.range n).map f, cap, by simp, cellsAt_of compCells 3 (by omega) compCells_length f hform (fun i hi => (hf i hi).2), ?_, by simpa using hn, hcap⟩
  intro y hy
  obtain ⟨i, hi, rfl⟩ := List.mem_map.1 hy
  exact (hf i (List.mem_range.1 hi)).1
set_option maxRecDepth 100000 in
theorem open_comps {base : Nat} {v : Value} {d : DataW H} {p : List MemPlace} (hv : Value.okWide Try.prog w .any base 41 v) (h : DataW.Trod enc Try.prog w 0 (fun _ => true) true 41 v d p) (hlt : ∀ x ∈ p, x.block < w.heap.size) :
    ∃ A l c, v = .slice A (List.length l) c ∧ CompsAt w A l ∧ (∀ y ∈ l, y.Good) ∧ l.length ≤ c ∧ c ≤ maxLen := by
  obtain ⟨a0, len, cap, rfl⟩ := okWide_slice Try.underlying41 hv
  obtain ⟨fuel, hf⟩ := h
  obtain ⟨A, l, c, e, h1⟩ := open_comps_cells hf hlt
  simp only [Value.cells, List.cons.injEq, and_true] at e
  exact ⟨A, l, c, e, h1⟩
set_option maxRecDepth 100000 in
theorem rec_comps {R : List Value} {y : DataW H × List MemPlace} {m o : Nat} (h : DataW.trod enc Try.prog w 0 (fun _ => true) true m 41 ((R.drop o).take (Try.prog.cellsOf 41)) = some y) (hlt : ∀ p ∈ y.2, p.block < w.heap.size) :
    ∃ A l c, R[o]? = some (.slice A (List.length l) c) ∧ CompsAt w A l ∧ (∀ z ∈ l, z.Good) ∧ l.length ≤ c ∧ c ≤ maxLen := by
  obtain ⟨A, l, c, e, h1⟩ := open_comps_cells h hlt
  rw [show Try.prog.cellsOf 41 = 1 by kernel_rfl] at e
  exact ⟨A, l, c, take_one e, h1⟩
end

/-- A node. -/
structure NodeV where
  id : Int
  parent : Int
  name : List Nat
  dir : Bool
  text : List Nat
instance : Inhabited NodeV := ⟨⟨0, 0, [], false, []⟩⟩
def NodeV.Good (c : NodeV) : Prop := Fit64 c.id ∧ Fit64 c.parent ∧ Bytes c.name ∧ Bytes c.text
def nodeCells (c : NodeV) : List Value := [.int .i64 c.id, .int .i64 c.parent, .string (bstr c.name), .bool c.dir, .string (bstr c.text)]
theorem nodeCells_length (c : NodeV) : (nodeCells c).length = 5 := rfl
def NodesAt (w : World) (A : Option Addr) (l : List NodeV) : Prop := CellsAt w A (l.flatMap nodeCells)
theorem NodesAt.below {w w' : World} {A : Option Addr} {l : List NodeV} (h : NodesAt w A l) (hb : Below w.heap.size w w') : NodesAt w' A l := CellsAt.below h hb
theorem NodesAt.drew {w : World} {A : Option Addr} {l : List NodeV} (h : NodesAt w A l) : NodesAt w.drew A l := CellsAt.drew h
theorem NodesAt.form {w : World} {A : Option Addr} {l : List NodeV} (h : NodesAt w A l) (h0 : 0 < l.length) : ∃ b off, A = some ⟨b, off, none⟩ ∧ b < w.heap.size :=
  CellsAt.form h (by intro e; have := congrArg List.length e; rw [flat_length nodeCells 5 nodeCells_length] at this; simp at this; omega)
theorem NodesAt.at_ {w : World} {b off : Nat} {l : List NodeV} (h : NodesAt w (some ⟨b, off, none⟩) l) {i : Nat} (hi : i < l.length) :
    w.cell? ⟨b, off + i * 5, none⟩ = some (.int .i64 l[i].id) ∧ w.cell? ⟨b, off + i * 5 + 1, none⟩ = some (.int .i64 l[i].parent) ∧ w.cell? ⟨b, off + i * 5 + 2, none⟩ = some (.string (bstr l[i].name)) ∧
      w.cell? ⟨b, off + i * 5 + 3, none⟩ = some (.bool l[i].dir) ∧ w.cell? ⟨b, off + i * 5 + 4, none⟩ = some (.string (bstr l[i].text)) := by
  refine ⟨?_, ?_, ?_, ?_, ?_⟩
  · exact CellsAt.cell h (j := i * 5 + 0) (by rw [flat_get nodeCells 5 nodeCells_length l i hi 0 (by omega)]; rfl)
  · rw [Nat.add_assoc]; exact CellsAt.cell h (by rw [flat_get nodeCells 5 nodeCells_length l i hi 1 (by omega)]; rfl)
  · rw [Nat.add_assoc]; exact CellsAt.cell h (by rw [flat_get nodeCells 5 nodeCells_length l i hi 2 (by omega)]; rfl)
  · rw [Nat.add_assoc]; exact CellsAt.cell h (by rw [flat_get nodeCells 5 nodeCells_length l i hi 3 (by omega)]; rfl)
  · rw [Nat.add_assoc]; exact CellsAt.cell h (by rw [flat_get nodeCells 5 nodeCells_length l i hi 4 (by omega)]; rfl)
section
variable {H : Type} {enc : TypeId × Value → H} {w : World}
set_option maxRecDepth 100000 in
theorem open_nodes_cells {fuel : Nat} {cs : List Value} {x : DataW H × List MemPlace} (h : DataW.trod enc Try.prog w 0 (fun _ => true) true fuel 47 cs = some x) (hlt : ∀ p ∈ x.2, p.block < w.heap.size) :
    ∃ A l c, cs = [.slice A (List.length l) c] ∧ NodesAt w A l ∧ (∀ y ∈ l, y.Good) ∧ l.length ≤ c ∧ c ≤ maxLen := by
  obtain ⟨A, n, cap, m, rfl, hn, hcap, hform, hrec⟩ := open_records (k := 5) Try.underlying47 Try.underlying57 (by kernel_rfl) h hlt
  have each : ∀ i, i < n → ∃ y : NodeV, y.Good ∧ ∀ b off, A = some ⟨b, off, none⟩ → ∀ j, j < 5 → w.cell? ⟨b, off + (i * 5 + j), none⟩ = (nodeCells y)[j]? := by
    intro i hi
    obtain ⟨R, hR, hcell, hf⟩ := hrec i hi
    obtain ⟨y0, h0, _⟩ := hf 0 _ rfl
    obtain ⟨y1, h1, _⟩ := hf 1 _ rfl
    obtain ⟨y2, h2, _⟩ := hf 2 _ rfl
    obtain ⟨y3, h3, _⟩ := hf 3 _ rfl
    obtain ⟨y4, h4, _⟩ := hf 4 _ rfl
    obtain ⟨k0, e0, w0⟩ := rec_int (o := 0) h0
    obtain ⟨k1, e1, w1⟩ := rec_int (o := 1) h1
    obtain ⟨l2, e2, w2⟩ := rec_text (o := 2) h2
    obtain ⟨b3, e3⟩ := rec_bool (o := 3) h3
    obtain ⟨l4, e4, w4⟩ := rec_text (o := 4) h4
    match R, hR with
    | [r0, r1, r2, r3, r4], _ =>
      simp only [List.getElem?_cons_zero, List.getElem?_cons_succ, Option.some.injEq] at e0 e1 e2 e3 e4
      subst e0 e1 e2 e3 e4
      exact ⟨⟨k0, k1, l2, b3, l4⟩, ⟨w0, w1, w2, w4⟩, hcell⟩
  obtain ⟨f, hf⟩ := choose_lt each
  refine ⟨A, (List.range n).map f, cap, by simp, cellsAt_of nodeCells 5 (by omega) nodeCells_length f hform (fun i hi => (hf i hi).2), ?_, by simpa using hn, hcap⟩
  intro y hy
  obtain ⟨i, hi, rfl⟩ := List.mem_map.1 hy
  exact (hf i (List.mem_range.1 hi)).1
set_option maxRecDepth 100000 in
theorem rec_nodes {R : List Value} {y : DataW H × List MemPlace} {m o : Nat} (h : DataW.trod enc Try.prog w 0 (fun _ => true) true m 47 ((R.drop o).take (Try.prog.cellsOf 47)) = some y) (hlt : ∀ p ∈ y.2, p.block < w.heap.size) :
    ∃ A l c, R[o]? = some (.slice A (List.length l) c) ∧ NodesAt w A l ∧ (∀ z ∈ l, z.Good) ∧ l.length ≤ c ∧ c ≤ maxLen := by
  obtain ⟨A, l, c, e, h1⟩ := open_nodes_cells h hlt
  rw [show Try.prog.cellsOf 47 = 1 by kernel_rfl] at e
  exact ⟨A, l, c, take_one e, h1⟩
end

/-- An act. -/
structure ActV where
  kind : Int
  id : Int
  parent : Int
  name : List Nat
  dir : Bool
  opsA : Option Addr
  opsC : Nat
  ops : List CompV
instance : Inhabited ActV := ⟨⟨0, 0, 0, [], false, none, 0, []⟩⟩
def ActV.Good (c : ActV) : Prop := Fit64 c.kind ∧ Fit64 c.id ∧ Fit64 c.parent ∧ Bytes c.name ∧ (∀ y ∈ c.ops, y.Good) ∧ c.ops.length ≤ c.opsC ∧ c.opsC ≤ maxLen
def actCells (c : ActV) : List Value := [.int .i64 c.kind, .int .i64 c.id, .int .i64 c.parent, .string (bstr c.name), .bool c.dir, .slice c.opsA c.ops.length c.opsC]
theorem actCells_length (c : ActV) : (actCells c).length = 6 := rfl
def ActsAt (w : World) (A : Option Addr) (l : List ActV) : Prop := CellsAt w A (l.flatMap actCells) ∧ ∀ y ∈ l, CompsAt w y.opsA y.ops
theorem ActsAt.below {w w' : World} {A : Option Addr} {l : List ActV} (h : ActsAt w A l) (hb : Below w.heap.size w w') : ActsAt w' A l := ⟨CellsAt.below h.1 hb, fun y hy => (h.2 y hy).below hb⟩
theorem ActsAt.drew {w : World} {A : Option Addr} {l : List ActV} (h : ActsAt w A l) : ActsAt w.drew A l := h
theorem ActsAt.form {w : World} {A : Option Addr} {l : List ActV} (h : ActsAt w A l) (h0 : 0 < l.length) : ∃ b off, A = some ⟨b, off, none⟩ ∧ b < w.heap.size :=
  CellsAt.form h.1 (by intro e; have := congrArg List.length e; rw [flat_length actCells 6 actCells_length] at this; simp at this; omega)
theorem ActsAt.at_ {w : World} {b off : Nat} {l : List ActV} (h : ActsAt w (some ⟨b, off, none⟩) l) {i : Nat} (hi : i < l.length) :
    w.cell? ⟨b, off + i * 6, none⟩ = some (.int .i64 l[i].kind) ∧ w.cell? ⟨b, off + i * 6 + 1, none⟩ = some (.int .i64 l[i].id) ∧ w.cell? ⟨b, off + i * 6 + 2, none⟩ = some (.int .i64 l[i].parent) ∧
      w.cell? ⟨b, off + i * 6 + 3, none⟩ = some (.string (bstr l[i].name)) ∧ w.cell? ⟨b, off + i * 6 + 4, none⟩ = some (.bool l[i].dir) ∧ w.cell? ⟨b, off + i * 6 + 5, none⟩ = some (.slice l[i].opsA l[i].ops.length l[i].opsC) := by
  refine ⟨?_, ?_, ?_, ?_, ?_, ?_⟩
  · exact CellsAt.cell h.1 (j := i * 6 + 0) (by rw [flat_get actCells 6 actCells_length l i hi 0 (by omega)]; rfl)
  · rw [Nat.add_assoc]; exact CellsAt.cell h.1 (by rw [flat_get actCells 6 actCells_length l i hi 1 (by omega)]; rfl)
  · rw [Nat.add_assoc]; exact CellsAt.cell h.1 (by rw [flat_get actCells 6 actCells_length l i hi 2 (by omega)]; rfl)
  · rw [Nat.add_assoc]; exact CellsAt.cell h.1 (by rw [flat_get actCells 6 actCells_length l i hi 3 (by omega)]; rfl)
  · rw [Nat.add_assoc]; exact CellsAt.cell h.1 (by rw [flat_get actCells 6 actCells_length l i hi 4 (by omega)]; rfl)
  · rw [Nat.add_assoc]; exact CellsAt.cell h.1 (by rw [flat_get actCells 6 actCells_length l i hi 5 (by omega)]; rfl)
section
variable {H : Type} {enc : TypeId × Value → H} {w : World}
set_option maxRecDepth 100000 in
theorem open_acts_cells {fuel : Nat} {cs : List Value} {x : DataW H × List MemPlace} (h : DataW.trod enc Try.prog w 0 (fun _ => true) true fuel 44 cs = some x) (hlt : ∀ p ∈ x.2, p.block < w.heap.size) :
    ∃ A l c, cs = [.slice A (List.length l) c] ∧ ActsAt w A l ∧ (∀ y ∈ l, y.Good) ∧ l.length ≤ c ∧ c ≤ maxLen := by
  obtain ⟨A, n, cap, m, rfl, hn, hcap, hform, hrec⟩ := open_records (k := 6) Try.underlying44 Try.underlying55 (by kernel_rfl) h hlt
  have each : ∀ i, i < n → ∃ y : ActV, (y.Good ∧ CompsAt w y.opsA y.ops) ∧ ∀ b off, A = some ⟨b, off, none⟩ → ∀ j, j < 6 → w.cell? ⟨b, off + (i * 6 + j), none⟩ = (actCells y)[j]? := by
    intro i hi
    obtain ⟨R, hR, hcell, hf⟩ := hrec i hi
    obtain ⟨y0, h0, _⟩ := hf 0 _ rfl
    obtain ⟨y1, h1, _⟩ := hf 1 _ rfl
    obtain ⟨y2, h2, _⟩ := hf 2 _ rfl
    obtain ⟨y3, h3, _⟩ := hf 3 _ rfl
    obtain ⟨y4, h4, _⟩ := hf 4 _ rfl
    obtain ⟨y5, h5, p5⟩ := hf 5 _ rfl
    obtain ⟨k0, e0, w0⟩ := rec_int (o := 0) h0
    obtain ⟨k1, e1, w1⟩ := rec_int (o := 1) h1
    obtain ⟨k2, e2, w2⟩ := rec_int (o := 2) h2
    obtain ⟨l3, e3, w3⟩ := rec_text (o := 3) h3
    obtain ⟨b4, e4⟩ := rec_bool (o := 4) h4
    obtain ⟨A5, l5, c5, e5, at5, g5, n5, m5⟩ := rec_comps (o := 5) h5 p5
    match R, hR with
    | [r0, r1, r2, r3, r4, r5], _ =>
      simp only [List.getElem?_cons_zero, List.getElem?_cons_succ, Option.some.injEq] at e0 e1 e2 e3 e4 e5
      subst e0 e1 e2 e3 e4 e5
      exact ⟨⟨k0, k1, k2, l3, b4, A5, c5, l5⟩, ⟨⟨w0, w1, w2, w3, g5, n5, m5⟩, at5⟩, hcell⟩
  obtain ⟨f, hf⟩ := choose_lt each
  refine ⟨A, (List.range n).map f, cap, by simp, ⟨cellsAt_of actCells 6 (by omega) actCells_length f hform (fun i hi => (hf i hi).2), ?_⟩, ?_, by simpa using hn, hcap⟩
  · intro y hy
    obtain ⟨i, hi, rfl⟩ := List.mem_map.1 hy
    exact (hf i (List.mem_range.1 hi)).1.2
  · intro y hy
    obtain ⟨i, hi, rfl⟩ := List.mem_map.1 hy
    exact (hf i (List.mem_range.1 hi)).1.1
set_option maxRecDepth 100000 in
theorem rec_acts {R : List Value} {y : DataW H × List MemPlace} {m o : Nat} (h : DataW.trod enc Try.prog w 0 (fun _ => true) true m 44 ((R.drop o).take (Try.prog.cellsOf 44)) = some y) (hlt : ∀ p ∈ y.2, p.block < w.heap.size) :
    ∃ A l c, R[o]? = some (.slice A (List.length l) c) ∧ ActsAt w A l ∧ (∀ z ∈ l, z.Good) ∧ l.length ≤ c ∧ c ≤ maxLen := by
  obtain ⟨A, l, c, e, h1⟩ := open_acts_cells h hlt
  rw [show Try.prog.cellsOf 44 = 1 by kernel_rfl] at e
  exact ⟨A, l, c, take_one e, h1⟩
end
end Go.Proofs.Ytkapfijokmajlaa

/- The items that the statements on codec are called with: what they hold, as which cells they lie, and how such an argument is opened. Condition: no slice and no text is longer than memory. -/
namespace Go.Proofs.Ytkapfijokmajlaa
open Go.ChangeShapes Go.WideShapes Go.ChangeAt Go.RowKit Go.Deep

/-- An item. -/
structure ItemV where
  kind : Int
  n : Int
  s : List Nat
  yes : Bool
  compsA : Option Addr
  compsC : Nat
  comps : List CompV
  actsA : Option Addr
  actsC : Nat
  acts : List ActV
  nodesA : Option Addr
  nodesC : Nat
  nodes : List NodeV
instance : Inhabited ItemV := ⟨⟨0, 0, [], false, none, 0, [], none, 0, [], none, 0, []⟩⟩
def ItemV.Good (c : ItemV) : Prop := Fit64 c.kind ∧ Fit64 c.n ∧ Bytes c.s ∧ (∀ y ∈ c.comps, y.Good) ∧ (∀ y ∈ c.acts, y.Good) ∧ (∀ y ∈ c.nodes, y.Good) ∧ c.comps.length ≤ maxLen ∧ c.acts.length ≤ maxLen ∧ c.nodes.length ≤ maxLen
def itemCells (c : ItemV) : List Value := [.int .i64 c.kind, .int .i64 c.n, .string (bstr c.s), .bool c.yes, .slice c.compsA c.comps.length c.compsC, .slice c.actsA c.acts.length c.actsC, .slice c.nodesA c.nodes.length c.nodesC]
theorem itemCells_length (c : ItemV) : (itemCells c).length = 7 := rfl
def ItemsAt (w : World) (A : Option Addr) (l : List ItemV) : Prop := CellsAt w A (l.flatMap itemCells) ∧ ∀ y ∈ l, CompsAt w y.compsA y.comps ∧ ActsAt w y.actsA y.acts ∧ NodesAt w y.nodesA y.nodes
theorem ItemsAt.below {w w' : World} {A : Option Addr} {l : List ItemV} (h : ItemsAt w A l) (hb : Below w.heap.size w w') : ItemsAt w' A l :=
  ⟨CellsAt.below h.1 hb, fun y hy => ⟨(h.2 y hy).1.below hb, (h.2 y hy).2.1.below hb, (h.2 y hy).2.2.below hb⟩⟩
theorem ItemsAt.form {w : World} {A : Option Addr} {l : List ItemV} (h : ItemsAt w A l) (h0 : 0 < l.length) : ∃ b off, A = some ⟨b, off, none⟩ ∧ b < w.heap.size :=
  CellsAt.form h.1 (by intro e; have := congrArg List.length e; rw [flat_length itemCells 7 itemCells_length] at this; simp at this; omega)
theorem ItemsAt.at_ {w : World} {b off : Nat} {l : List ItemV} (h : ItemsAt w (some ⟨b, off, none⟩) l) {i : Nat} (hi : i < l.length) (f : Nat) (hf : f < 7) : w.cell? ⟨b, off + (i * 7 + f), none⟩ = (itemCells l[i])[f]? := by
  have h1 : f < (itemCells l[i]).length := by rw [itemCells_length]; exact hf
  rw [List.getElem?_eq_getElem h1]
  exact CellsAt.cell h.1 (by rw [flat_get itemCells 7 itemCells_length l i hi f hf, List.getElem?_eq_getElem h1])
section
variable {H : Type} {enc : TypeId × Value → H} {w : World}
set_option maxRecDepth 100000 in
theorem open_items {base : Nat} {v : Value} {d : DataW H} {p : List MemPlace} (hv : Value.okWide Try.prog w .any base 22 v) (h : DataW.Trod enc Try.prog w 0 (fun _ => true) true 22 v d p) (hlt : ∀ x ∈ p, x.block < w.heap.size) :
    ∃ A l c, v = .slice A (List.length l) c ∧ ItemsAt w A l ∧ (∀ y ∈ l, y.Good) ∧ l.length ≤ c ∧ c ≤ maxLen := by
  obtain ⟨a0, len, cap0, rfl⟩ := okWide_slice Try.underlying22 hv
  obtain ⟨fuel, hfu⟩ := h
  obtain ⟨A, n, cap, m, hcs, hn, hcap, hform, hrec⟩ := open_records (k := 7) Try.underlying22 Try.underlying53 (by kernel_rfl) hfu hlt
  have each : ∀ i, i < n → ∃ y : ItemV, (y.Good ∧ CompsAt w y.compsA y.comps ∧ ActsAt w y.actsA y.acts ∧ NodesAt w y.nodesA y.nodes) ∧ ∀ b off, A = some ⟨b, off, none⟩ → ∀ j, j < 7 → w.cell? ⟨b, off + (i * 7 + j), none⟩ = (itemCells y)[j]? := by
    intro i hi
    obtain ⟨R, hR, hcell, hf⟩ := hrec i hi
    obtain ⟨y0, h0, _⟩ := hf 0 _ rfl
    obtain ⟨y1, h1, _⟩ := hf 1 _ rfl
    obtain ⟨y2, h2, _⟩ := hf 2 _ rfl
    obtain ⟨y3, h3, _⟩ := hf 3 _ rfl
    obtain ⟨y4, h4, p4⟩ := hf 4 _ rfl
    obtain ⟨y5, h5, p5⟩ := hf 5 _ rfl
    obtain ⟨y6, h6, p6⟩ := hf 6 _ rfl
    obtain ⟨k0, e0, w0⟩ := rec_int (o := 0) h0
    obtain ⟨k1, e1, w1⟩ := rec_int (o := 1) h1
    obtain ⟨l2, e2, w2⟩ := rec_text (o := 2) h2
    obtain ⟨b3, e3⟩ := rec_bool (o := 3) h3
    obtain ⟨A4, l4, c4, e4, at4, g4, n4, m4⟩ := rec_comps (o := 4) h4 p4
    obtain ⟨A5, l5, c5, e5, at5, g5, n5, m5⟩ := rec_acts (o := 5) h5 p5
    obtain ⟨A6, l6, c6, e6, at6, g6, n6, m6⟩ := rec_nodes (o := 6) h6 p6
    match R, hR with
    | [r0, r1, r2, r3, r4, r5, r6], _ =>
      simp only [List.getElem?_cons_zero, List.getElem?_cons_succ, Option.some.injEq] at e0 e1 e2 e3 e4 e5 e6
      subst e0 e1 e2 e3 e4 e5 e6
      exact ⟨⟨k0, k1, l2, b3, A4, c4, l4, A5, c5, l5, A6, c6, l6⟩, ⟨⟨w0, w1, w2, g4, g5, g6, by show l4.length ≤ maxLen; omega, by show l5.length ≤ maxLen; omega, by show l6.length ≤ maxLen; omega⟩, at4, at5, at6⟩, hcell⟩
  obtain ⟨f, hf⟩ := choose_lt each
  simp only [Value.cells, List.cons.injEq, and_true] at hcs
  refine ⟨A, (List.range n).map f, cap, by rw [hcs]; simp, ⟨cellsAt_of itemCells 7 (by omega) itemCells_length f hform (fun i hi => (hf i hi).2), ?_⟩, ?_, by simpa using hn, hcap⟩
  · intro y hy
    obtain ⟨i, hi, rfl⟩ := List.mem_map.1 hy
    exact (hf i (List.mem_range.1 hi)).1.2
  · intro y hy
    obtain ⟨i, hi, rfl⟩ := List.mem_map.1 hy
    exact (hf i (List.mem_range.1 hi)).1.1
end
end Go.Proofs.Ytkapfijokmajlaa

/- What is written, and whether it is bad, in plain mathematics: numbers, texts, flags, parts, acts, nodes, items. No condition. -/
namespace Go.Proofs.Ytkapfijokmajlaa

/-- Bytes, and whether something could not be written. -/
abbrev Ink := List Nat × Bool
def ink (a b : Ink) : Ink := (a.1 ++ b.1, a.2 || b.2)
def noInk : Ink := ([], false)
theorem ink_assoc (a b c : Ink) : ink (ink a b) c = ink a (ink b c) := by simp [ink, List.append_assoc, Bool.or_assoc]
theorem ink_none (a : Ink) : ink a noInk = a := by simp [ink, noInk]
theorem none_ink (a : Ink) : ink noInk a = a := by simp [ink, noInk]
def inks : List Ink → Ink
  | [] => noInk
  | a :: l => ink a (inks l)
theorem inks_snoc (l : List Ink) (a : Ink) : inks (l ++ [a]) = ink (inks l) a := by
  induction l with
  | nil => simp [inks, ink_none, none_ink]
  | cons x l ih => rw [List.cons_append, inks, inks, ih, ink_assoc]
theorem inks_append (l m : List Ink) : inks (l ++ m) = ink (inks l) (inks m) := by
  induction l with
  | nil => simp [inks, none_ink]
  | cons x l ih => rw [List.cons_append, inks, inks, ih, ink_assoc]
theorem inks_take {α : Type} (f : α → Ink) (l : List α) (k : Nat) (h : k < l.length) : inks ((l.take (k + 1)).map f) = ink (inks ((l.take k).map f)) (f l[k]) := by
  rw [List.take_succ_eq_append_getElem h, List.map_append, List.map_cons, List.map_nil, inks_snoc]

def fitsN (n : Int) : Prop := 0 ≤ n ∧ n ≤ 1099511627776
instance (n : Int) : Decidable (fitsN n) := by unfold fitsN; infer_instance
noncomputable def validB (l : List Nat) : Bool := @decide (∃ vs, V l vs) (Classical.propDecidable _)
theorem validB_yes {l vs : List Nat} (h : V l vs) : validB l = true := by unfold validB; exact @decide_eq_true _ (Classical.propDecidable _) ⟨vs, h⟩
theorem validB_no {l : List Nat} (h : ¬ ∃ vs, V l vs) : validB l = false := by unfold validB; exact @decide_eq_false _ (Classical.propDecidable _) h

def iNum (n : Int) : Ink := if fitsN n then (nput n.toNat, false) else ([], true)
theorem iNum_yes {n : Nat} (h : n ≤ 1099511627776) : iNum (n : Int) = (nput n, false) := by rw [iNum, if_pos (by unfold fitsN; omega), Int.toNat_natCast]
theorem iNum_no {n : Int} (h : n < 0 ∨ 1099511627776 < n) : iNum n = ([], true) := by rw [iNum, if_neg (by unfold fitsN; omega)]
noncomputable def iText (t : List Nat) : Ink := ink ([], !validB t) (ink (iNum t.length) (t, false))
def iFlag (b : Bool) : Ink := iNum (if b then 1 else 0)
noncomputable def iComp (c : CompV) : Ink := ink (iNum c.kind) (ink (iNum c.n) (iText c.text))
noncomputable def iComps (l : List CompV) : Ink := ink (iNum l.length) (inks (l.map iComp))
noncomputable def iAct (c : ActV) : Ink := ink (iNum c.kind) (ink (iNum c.id) (ink (iNum c.parent) (ink (iText c.name) (ink (iFlag c.dir) (iComps c.ops)))))
noncomputable def iActs (l : List ActV) : Ink := ink (iNum l.length) (inks (l.map iAct))
noncomputable def iNode (c : NodeV) : Ink := ink (iNum c.id) (ink (iNum c.parent) (ink (iText c.name) (ink (iFlag c.dir) (iText c.text))))
noncomputable def iNodes (l : List NodeV) : Ink := ink (iNum l.length) (inks (l.map iNode))
theorem iNum_length (n : Int) : (iNum n).1.length ≤ 6 := by
  unfold iNum
  split
  · show (nput n.toNat).length ≤ 6
    rw [nput_length]; exact nsz_le _
  · simp
end Go.Proofs.Ytkapfijokmajlaa

/- The contract of alike.Round. Condition: its second number is positive and no more than 2^62. -/
namespace Go.Proofs.Ytkapfijokmajlaa
open Go.RowKit Go.Deep

/-- alike.Round. -/
def rnd (k : Int) (n : Nat) : Nat := (k % (n : Int)).toNat
theorem rnd_lt (k : Int) {n : Nat} (h : 0 < n) : rnd k n < n := by
  have h1 := Int.emod_nonneg k (show (n : Int) ≠ 0 by omega)
  have h2 := Int.emod_lt_of_pos k (show (0 : Int) < n by omega)
  unfold rnd
  omega
theorem rnd_cast (k : Int) {n : Nat} (h : 0 < n) : ((rnd k n : Nat) : Int) = k % (n : Int) := by
  have h1 := Int.emod_nonneg k (show (n : Int) ≠ 0 by omega)
  unfold rnd
  omega
theorem tmod_bounds (k : Int) (n : Nat) (h : 0 < n) : -(n : Int) < k.tmod n ∧ k.tmod n < n := by
  have h1 := Int.tmod_lt_of_pos k (show (0 : Int) < n by omega)
  have h2 := Int.lt_tmod_of_pos k (show (0 : Int) < n by omega)
  exact ⟨h2, h1⟩
theorem emod_tmod (k : Int) (n : Nat) (h : 0 < n) : k % (n : Int) = if k.tmod n < 0 then k.tmod n + n else k.tmod n := by
  obtain ⟨h1, h2⟩ := tmod_bounds k n h
  have e : k % (n : Int) = k.tmod n % (n : Int) := by
    conv => lhs; rw [← Int.mul_tdiv_add_tmod k n]
    rw [Int.add_comm, Int.add_mul_emod_self_left]
  rw [e]
  split
  · rw [← Int.add_emod_right, Int.emod_eq_of_lt (by omega) (by omega)]
  · rw [Int.emod_eq_of_lt (by omega) (by omega)]
theorem alikeRound_any (k : Int) (n : Nat) (h0 : 0 < n) (h1 : n ≤ 4611686018427387904) (w : World) :
    Calls Try.prog 14 #[.int .i64 k, .int .i64 (n : Int)] w fun e w' => e = .returned (.int .i64 ((rnd k n : Nat) : Int)) ∧ w = w' := by
  obtain ⟨hb1, hb2⟩ := tmod_bounds k n h0
  have HE := Lib.hid (emod_tmod k n h0)
  have HC := Lib.hid (rnd_cast k h0)
  by_cases hlt : k.tmod n < 0
  all_goals
    go_enter Try.func14, Try.ntmps14
    go_wp2
    go_ret
    first
      | exact ⟨by rw [HC.out, HE.out, if_pos hlt]; rfl, rfl⟩
      | exact ⟨by rw [HC.out, HE.out, if_neg (by omega)]; rfl, rfl⟩

end Go.Proofs.Ytkapfijokmajlaa

/- The contract of alike.Sum, which the statements lean on. Condition: its numbers are not negative. -/
namespace Go.Proofs.Ytkapfijokmajlaa
open Go.RowKit Go.Deep

/-! ### Sums that are held at a limit -/
def capSum : Nat → List Nat → Nat
  | n, [] => n
  | n, x :: xs => if 1099511627776 < n + x then 1099511627776 else capSum (n + x) xs
theorem capSum_drop (n : Nat) (xs : List Nat) (k : Nat) (h : k < xs.length) : capSum n (xs.drop k) = if 1099511627776 < n + xs[k] then 1099511627776 else capSum (n + xs[k]) (xs.drop (k + 1)) := by
  rw [List.drop_eq_getElem_cons h]
  rfl
theorem ints_two (w : World) (t : TypeId) (a c : Nat) : ∀ j x : Nat, [a, c][j]? = some x → (w.alloc (.cells #[.int .i64 (a : Int), .int .i64 (c : Int)] t)).cell? ⟨w.heap.size, 0 + j, none⟩ = some (.int .i64 (x : Int)) := by
  intro j x hx
  rw [Nat.zero_add, cell_of_row _ _ _ _ t (0, 0) (heap_alloc_new w _)]
  match j, hx with
  | 0, hx => cases hx; rfl
  | 1, hx => cases hx; rfl
/-- The integers that lie at a place. -/
def NatsAt (w : World) (b off : Nat) (xs : List Nat) : Prop := ∀ j x : Nat, xs[j]? = some x → w.cell? ⟨b, off + j, none⟩ = some (.int .i64 (x : Int))
theorem NatsAt.drew {w : World} {b off : Nat} {xs : List Nat} (h : NatsAt w b off xs) : NatsAt w.drew b off xs := h

set_option maxRecDepth 100000 in
theorem alikeSum_row (n : Nat) (hn : n ≤ 9223372036854775807) (b off cap : Nat) (xs : List Nat) (hl : xs.length ≤ maxLen) (hx : ∀ x ∈ xs, x ≤ 9223372036854775807) (w : World) (hc : NatsAt w b off xs) :
    Calls Try.prog 35 #[.int .i64 (n : Int), .slice (some ⟨b, off, none⟩) xs.length cap] w fun e w' => e = .returned (.int .i64 ((capSum n xs : Nat) : Int)) ∧ w = w' := by
  unfold maxLen at hl
  have HC := Lib.hid hc; clear hc
  have HX := Lib.hid hx; clear hx
  have HN := Lib.hid hn; clear hn
  go_enter Try.func35, Try.ntmps35
  go_wp2
  go_loop [0, 5] (fun t i => ∃ k m : Nat, k ≤ xs.length ∧ i = .int .i64 k ∧ t = .int .i64 (m : Int) ∧ m ≤ 9223372036854775807 ∧ capSum m (xs.drop k) = capSum n xs) (fun _ i => xs.length - (intOf i).toNat)
  case atStart => exact ⟨0, n, Nat.zero_le _, rfl, rfl, HN.out, rfl⟩
  case round =>
    obtain ⟨k, m, hk, rfl, rfl, hm, he⟩ := hrel
    have HE := Lib.hid he; clear he
    by_cases hlt : k < xs.length
    · have hcell := HC.out k _ (List.getElem?_eq_getElem hlt)
      have hxk := HX.out _ (List.getElem_mem hlt)
      have hd := capSum_drop m xs k hlt
      rw [HE.out] at hd
      have HD := Lib.hid hd; clear hd
      obtain ⟨x, HXX⟩ : ∃ x, Hid (xs[k] = x) := ⟨xs[k], Lib.hid rfl⟩
      rw [HXX.out] at hcell hxk HD
      by_cases hb : 1099511627776 < m + x
      · have HR : Hid (capSum n xs = 1099511627776) := by show capSum n xs = 1099511627776; rw [HD.out, if_pos hb]
        by_cases h1 : 1099511627776 < m
        · go_wp2
          go_ret
          exact ⟨by rw [HR.out]; rfl, rfl⟩
        · have h1' : m ≤ 1099511627776 := by omega
          go_wp2
          go_ret
          exact ⟨by rw [HR.out]; rfl, rfl⟩
      · have h1' : m ≤ 1099511627776 := by omega
        have HR : Hid (capSum (m + x) (xs.drop (k + 1)) = capSum n xs) := by show capSum (m + x) (xs.drop (k + 1)) = capSum n xs; rw [HD.out, if_neg hb]
        go_wp2
        go_round
        case rel => exact ⟨k + 1, m + x, by omega, by go_num, by go_num, by omega, HR.out⟩
        case measure => simp [intOf]; omega
    · have HR : Hid (m = capSum n xs) := by
        show m = capSum n xs
        rw [← HE.out, List.drop_eq_nil_of_le (by omega)]
        rfl
      go_wp2
      go_ret
      exact ⟨by rw [← HR.out]; rfl, rfl⟩
end Go.Proofs.Ytkapfijokmajlaa

/- Weights that are held at a limit. Conditions: as each states. -/
namespace Go.Proofs.Ytkapfijokmajlaa
open Go.RowKit Go.Deep

/-- Weights of many, each made of some numbers; beyond the limit it is not counted on. -/
def wts (limit : Nat) : Nat → List (List Nat) → Nat
  | n, [] => n
  | n, x :: L => if n ≤ limit then wts limit (capSum n x) L else n
theorem wts_nil (limit n : Nat) : wts limit n [] = n := rfl
theorem wts_drop (limit n : Nat) (L : List (List Nat)) (k : Nat) (h : k < L.length) : wts limit n (L.drop k) = if n ≤ limit then wts limit (capSum n L[k]) (L.drop (k + 1)) else n := by
  rw [List.drop_eq_getElem_cons h]
  rfl
theorem capSum_held (xs : List Nat) : ∀ n, n ≤ 1099511627776 → capSum n xs ≤ 1099511627776 := by
  induction xs with
  | nil => intro n hn; exact hn
  | cons x xs ih =>
    intro n hn
    rw [capSum]
    split
    · exact Nat.le_refl _
    · exact ih _ (by omega)
theorem capSum_sum (xs : List Nat) : ∀ n, capSum n xs < 1099511627776 → capSum n xs = n + xs.sum := by
  induction xs with
  | nil => intro n _; rfl
  | cons x xs ih =>
    intro n h
    rw [capSum] at h ⊢
    split at h
    · omega
    · rename_i h1
      rw [if_neg h1, ih _ h, List.sum_cons]
      omega
theorem wts_spec (limit : Nat) (hl : limit < 1099511627776) (L : List (List Nat)) : ∀ n, wts limit n L ≤ limit → wts limit n L = n + (L.map List.sum).sum := by
  induction L with
  | nil => intro n _; rfl
  | cons x L ih =>
    intro n h
    have e : wts limit n (x :: L) = if n ≤ limit then wts limit (capSum n x) L else n := rfl
    rw [e] at h ⊢
    split at h
    · rename_i hn
      rw [if_pos hn]
      have h1 := ih _ h
      have h2 := capSum_sum x n (by omega)
      rw [h1, h2, List.map_cons, List.sum_cons]
      omega
    · omega
theorem wts_held (limit : Nat) (L : List (List Nat)) : ∀ n, n ≤ 1099511627776 → wts limit n L ≤ 1099511627776 := by
  induction L with
  | nil => intro n hn; exact hn
  | cons x L ih =>
    intro n hn
    show (if n ≤ limit then wts limit (capSum n x) L else n) ≤ 1099511627776
    split
    · exact ih _ (capSum_held x n hn)
    · exact hn
attribute [irreducible] wts

theorem nats_lit (w : World) (t : TypeId) (cs : Array Value) (xs : List Nat) (h : ∀ j x : Nat, xs[j]? = some x → cs[j]? = some (.int .i64 (x : Int))) (g : Nat) (hg : g = w.heap.size) : NatsAt (w.alloc (.cells cs t)) g 0 xs := by
  subst hg
  intro j x hx
  rw [Nat.zero_add, cell_of_row _ _ _ _ t (0, 0) (heap_alloc_new w _)]
  exact h j x hx

end Go.Proofs.Ytkapfijokmajlaa

/- The contract of alike.Comps: called with any edit it answers its weight, held at a limit; what was there stays as it was. Condition: no slice and no text is longer than memory. -/
namespace Go.Proofs.Ytkapfijokmajlaa
open Go.RowKit Go.Deep

def compTerms (c : CompV) : List Nat := [c.text.length, 2]
def compsWeight (limit : Nat) (l : List CompV) : Nat := wts limit 0 (l.map compTerms)

set_option maxRecDepth 100000 in
theorem alikeComps_row (limit : Nat) (b off cap : Nat) (l : List CompV) (hl : l.length ≤ maxLen) (hg : ∀ y ∈ l, y.Good) (w : World) (hc : CompsAt w (some ⟨b, off, none⟩) l) :
    Calls Try.prog 36 #[.slice (some ⟨b, off, none⟩) l.length cap, .int .i64 (limit : Int)] w fun e w' => e = .returned (.int .i64 ((compsWeight limit l : Nat) : Int)) ∧ Below w.heap.size w w' := by
  unfold maxLen at hl
  have HC := Lib.hid hc; clear hc
  have HG := Lib.hid hg; clear hg
  obtain ⟨T, HT⟩ : ∃ T, Hid (compsWeight limit l = T) := ⟨_, rfl⟩
  rw [HT.out]
  go_enter Try.func36, Try.ntmps36
  go_wp2
  go_loopw [5, 6] (fun t i wr => ∃ k m : Nat, k ≤ l.length ∧ i = .int .i64 k ∧ t = .int .i64 (m : Int) ∧ m ≤ 1099511627776 ∧ wts limit m ((l.map compTerms).drop k) = T ∧ Below w.heap.size w wr) (fun _ i _ => l.length - (intOf i).toNat)
  case atStart => exact ⟨0, 0, Nat.zero_le _, rfl, rfl, by omega, HT.out, Below.refl _ _⟩
  case round =>
    obtain ⟨k, m, hk, rfl, rfl, hm, he, hbel⟩ := hrel
    have HE := Lib.hid he; clear he
    have HB := Lib.hid hbel; clear hbel
    by_cases hlt : k < l.length
    · have HW := Lib.hid (HE.out ▸ wts_drop limit m (l.map compTerms) k (by simpa using hlt) : T = _)
      have HX : Hid ((l.map compTerms)[k]'(by simpa using hlt) = [l[k].text.length, 2]) := by show _ = _; rw [List.getElem_map]; rfl
      by_cases hml : m ≤ limit
      · have hcell := ((HC.out.below HB.out).at_ hlt).2.2
        have hxl := (HG.out _ (List.getElem_mem hlt)).2.2.2
        unfold maxLen at hxl
        have hsz := bstr_size l[k].text
        obtain ⟨S, HS0⟩ : ∃ S, Hid (bstr l[k].text = S) := ⟨bstr l[k].text, Lib.hid rfl⟩
        obtain ⟨a, HA⟩ : ∃ a, Hid (l[k].text.length = a) := ⟨l[k].text.length, Lib.hid rfl⟩
        rw [HS0.out] at hcell hsz
        rw [HA.out] at hsz hxl HX
        have HR : Hid (wts limit (capSum m [a, 2]) ((l.map compTerms).drop (k + 1)) = T) := by show _ = _; rw [HW.out, if_pos hml, HX.out]
        obtain ⟨r, HRR⟩ : ∃ r, Hid (capSum m [a, 2] = r) := ⟨_, rfl⟩
        have hr : r ≤ 1099511627776 := by rw [← HRR.out]; exact capSum_held _ m hm
        rw [HRR.out] at HR
        have HS := Lib.hid (fun g hg' => alikeSum_row m (by omega) g 0 2 [a, 2] (by simp [maxLen]) (by simp; omega) _ (nats_lit wr 3 #[.int .i64 (a : Int), .int .i64 2] [a, 2] (fun j x hx => by
          match j, hx with
          | 0, hx => cases hx; rfl
          | 1, hx => cases hx; rfl) g hg'))
        rw [HRR.out] at HS
        clear HW HRR
        go_wp2_with (go_at_call 35; refine (HS.out _ rfl).mono ?_; rintro e w' ⟨rfl, rfl⟩)
        go_roundw
        case rel => exact ⟨k + 1, r, by omega, by go_num, rfl, hr, HR.out, HB.out.alloc HB.out.size _⟩
        case measure => simp [intOf]; omega
      · have HR : Hid (m = T) := by show _ = _; rw [HW.out, if_neg hml]
        have hml' : limit < m := by omega
        go_wp2
        go_ret
        exact ⟨by rw [← HR.out]; rfl, HB.out⟩
    · have HR : Hid (m = T) := by
        show m = T
        rw [← HE.out, List.drop_eq_nil_of_le (by simp; omega), wts_nil]
      go_wp2
      go_ret
      exact ⟨by rw [← HR.out]; rfl, HB.out⟩
theorem alikeComps_nil (limit : Nat) (A : Option Addr) (cap : Nat) (w : World) :
    Calls Try.prog 36 #[.slice A 0 cap, .int .i64 (limit : Int)] w fun e w' => e = .returned (.int .i64 ((compsWeight limit [] : Nat) : Int)) ∧ Below w.heap.size w w' := by
  have HR : Hid (0 = compsWeight limit []) := by show 0 = compsWeight limit []; rw [compsWeight, List.map_nil, wts_nil]
  go_enter Try.func36, Try.ntmps36
  go_wp2
  refine wp_loop_rounds 1 ?_
  rw [rounds_succ]
  go_wp2
  go_ret
  exact ⟨by rw [← HR.out]; rfl, Below.refl _ _⟩
theorem alikeComps_at {A : Option Addr} {l : List CompV} (limit : Nat) (cap : Nat) (hl : l.length ≤ maxLen) (hg : ∀ y ∈ l, y.Good) (w : World) (h : CompsAt w A l) :
    Calls Try.prog 36 #[.slice A l.length cap, .int .i64 (limit : Int)] w fun e w' => e = .returned (.int .i64 ((compsWeight limit l : Nat) : Int)) ∧ Below w.heap.size w w' := by
  cases l with
  | nil => exact alikeComps_nil limit A cap w
  | cons c l =>
    obtain ⟨b, off, rfl, _⟩ := h.form (by simp)
    exact alikeComps_row limit b off cap _ hl hg w h
end Go.Proofs.Ytkapfijokmajlaa

/- The contract of alike.Nodes: called with any nodes it answers their weight, held at a limit; what was there stays as it was. Condition: no slice and no text is longer than memory. -/
namespace Go.Proofs.Ytkapfijokmajlaa
open Go.RowKit Go.Deep

def nodeTerms (c : NodeV) : List Nat := [c.name.length, c.text.length, 3]
def nodesWeight (limit : Nat) (l : List NodeV) : Nat := wts limit 0 (l.map nodeTerms)

set_option maxHeartbeats 1000000 in
set_option maxRecDepth 100000 in
theorem alikeNodes_row (limit : Nat) (b off cap : Nat) (l : List NodeV) (hl : l.length ≤ maxLen) (hg : ∀ y ∈ l, y.Good) (w : World) (hc : NodesAt w (some ⟨b, off, none⟩) l) :
    Calls Try.prog 38 #[.slice (some ⟨b, off, none⟩) l.length cap, .int .i64 (limit : Int)] w fun e w' => e = .returned (.int .i64 ((nodesWeight limit l : Nat) : Int)) ∧ Below w.heap.size w w' := by
  unfold maxLen at hl
  have HC := Lib.hid hc; clear hc
  have HG := Lib.hid hg; clear hg
  obtain ⟨T, HT⟩ : ∃ T, Hid (nodesWeight limit l = T) := ⟨_, rfl⟩
  rw [HT.out]
  go_enter Try.func38, Try.ntmps38
  go_wp2
  go_loopw [5, 6] (fun t i wr => ∃ k m : Nat, k ≤ l.length ∧ i = .int .i64 k ∧ t = .int .i64 (m : Int) ∧ m ≤ 1099511627776 ∧ wts limit m ((l.map nodeTerms).drop k) = T ∧ Below w.heap.size w wr) (fun _ i _ => l.length - (intOf i).toNat)
  case atStart => exact ⟨0, 0, Nat.zero_le _, rfl, rfl, by omega, HT.out, Below.refl _ _⟩
  case round =>
    obtain ⟨k, m, hk, rfl, rfl, hm, he, hbel⟩ := hrel
    have HE := Lib.hid he; clear he
    have HB := Lib.hid hbel; clear hbel
    by_cases hlt : k < l.length
    · have HW := Lib.hid (HE.out ▸ wts_drop limit m (l.map nodeTerms) k (by simpa using hlt) : T = _)
      have HX : Hid ((l.map nodeTerms)[k]'(by simpa using hlt) = [l[k].name.length, l[k].text.length, 3]) := by show _ = _; rw [List.getElem_map]; rfl
      by_cases hml : m ≤ limit
      · have HCA := Lib.hid ((HC.out.below HB.out).at_ hlt)
        have hx1 := (HG.out _ (List.getElem_mem hlt)).2.2.1.2
        have hx2 := (HG.out _ (List.getElem_mem hlt)).2.2.2.2
        unfold maxLen at hx1 hx2
        have hs1 := bstr_size l[k].name
        have hs2 := bstr_size l[k].text
        obtain ⟨S1, HS1⟩ : ∃ S, Hid (bstr l[k].name = S) := ⟨bstr l[k].name, Lib.hid rfl⟩
        obtain ⟨S2, HS2⟩ : ∃ S, Hid (bstr l[k].text = S) := ⟨bstr l[k].text, Lib.hid rfl⟩
        obtain ⟨a, HA⟩ : ∃ a, Hid (l[k].name.length = a) := ⟨l[k].name.length, Lib.hid rfl⟩
        obtain ⟨c, HCC⟩ : ∃ a, Hid (l[k].text.length = a) := ⟨l[k].text.length, Lib.hid rfl⟩
        rw [HS1.out] at HCA hs1
        rw [HS2.out] at HCA hs2
        rw [HA.out] at hs1 hx1 HX
        rw [HCC.out] at hs2 hx2 HX
        have hk2 : Hid (wr.cell? ⟨b, off + k * 5 + 2, none⟩ = some (.string S1)) := HCA.out.2.2.1
        have hk4 : Hid (wr.cell? ⟨b, off + k * 5 + 4, none⟩ = some (.string S2)) := HCA.out.2.2.2.2
        have HR : Hid (wts limit (capSum m [a, c, 3]) ((l.map nodeTerms).drop (k + 1)) = T) := by show _ = _; rw [HW.out, if_pos hml, HX.out]
        obtain ⟨r, HRR⟩ : ∃ r, Hid (capSum m [a, c, 3] = r) := ⟨_, rfl⟩
        have hr : r ≤ 1099511627776 := by rw [← HRR.out]; exact capSum_held _ m hm
        rw [HRR.out] at HR
        have HN := Lib.hid (fun (wx : World) (t : TypeId) g hg' => nats_lit wx t #[.int .i64 (a : Int), .int .i64 (c : Int), .int .i64 3] [a, c, 3] (fun j x hx => by
          match j, hx with
          | 0, hx => cases hx; rfl
          | 1, hx => cases hx; rfl
          | 2, hx => cases hx; rfl) g hg')
        have HS := Lib.hid (fun (wx : World) g (hn : NatsAt wx g 0 [a, c, 3]) => alikeSum_row m (by omega) g 0 3 [a, c, 3] (by simp [maxLen]) (by simp; omega) wx hn)
        rw [HRR.out] at HS
        clear HW HRR HCA
        go_wp2_with fail
        refine wp_region_lit [(0, true), (1, true), (2, true), (3, true), (4, true), (5, true), (6, true), (7, true), (8, true), (9, true), (10, true), (11, true), (12, true), (13, false), (14, false), (15, true)] (by kernel_rfl) (by kernel_rfl) (fun _ _ d _ _ h => by cases d <;> exact h) ?_
        simp only [picked, List.map_cons, List.map_nil, List.getElem?_cons_succ, List.getElem?_cons_zero, Option.getD_some]
        have hq2 := fun e : Ext wr.drew => Ext.cell (w := wr.drew) hk2.out e
        have hq4 := fun e : Ext wr.drew => Ext.cell (w := wr.drew) hk4.out e
        repeat (first | (refine wpL_quiet (by rfl) (fun K hK => ?_); go_big_quiet_op; refine hK _ ?_; clear hK K) | (refine wpL_skip (by rfl) ?_; simp only [Act.put, List.setIfInBounds_toArray, List.set_cons_zero, List.set_cons_succ]))
        clear hq2 hq4
        refine wpL_call (by rfl) (fun K hK => ?_)
        go_simp
        refine hK _ _ ((Below.refl _ _).alloc (Nat.le_refl _) _) ?_
        clear hK K
        repeat (first | (refine wpL_quiet (by rfl) (fun K hK => ?_); go_big_quiet_op; refine hK _ ?_; clear hK K) | (refine wpL_skip (by rfl) ?_; simp only [Act.put, List.setIfInBounds_toArray, List.set_cons_zero, List.set_cons_succ]))
        refine wpL_call (by rfl) (fun K hK => ?_)
        go_simp
        refine (HS.out _ _ (NatsAt.drew (HN.out wr _ _ rfl))).mono ?_
        rintro e w2 ⟨rfl, rfl⟩
        refine hK _ _ (Below.refl _ _) ?_
        clear hK K
        repeat (first | (refine wpL_quiet (by rfl) (fun K hK => ?_); go_big_quiet_op; refine hK _ ?_; clear hK K) | (refine wpL_skip (by rfl) ?_; simp only [Act.put, List.setIfInBounds_toArray, List.set_cons_zero, List.set_cons_succ]))
        refine wpL_nil ?_
        go_wp2
        go_roundw
        case rel => exact ⟨k + 1, r, by omega, by go_num, rfl, hr, HR.out, (HB.out.alloc HB.out.size _).drew⟩
        case measure => simp [intOf]; omega
      · have HR : Hid (m = T) := by show _ = _; rw [HW.out, if_neg hml]
        have hml' : limit < m := by omega
        go_wp2
        go_ret
        exact ⟨by rw [← HR.out]; rfl, HB.out⟩
    · have HR : Hid (m = T) := by
        show m = T
        rw [← HE.out, List.drop_eq_nil_of_le (by simp; omega), wts_nil]
      go_wp2
      go_ret
      exact ⟨by rw [← HR.out]; rfl, HB.out⟩
theorem alikeNodes_nil (limit : Nat) (A : Option Addr) (cap : Nat) (w : World) :
    Calls Try.prog 38 #[.slice A 0 cap, .int .i64 (limit : Int)] w fun e w' => e = .returned (.int .i64 ((nodesWeight limit [] : Nat) : Int)) ∧ Below w.heap.size w w' := by
  have HR : Hid (0 = nodesWeight limit []) := by show 0 = nodesWeight limit []; rw [nodesWeight, List.map_nil, wts_nil]
  go_enter Try.func38, Try.ntmps38
  go_wp2
  refine wp_loop_rounds 1 ?_
  rw [rounds_succ]
  go_wp2
  go_ret
  exact ⟨by rw [← HR.out]; rfl, Below.refl _ _⟩
theorem alikeNodes_at {A : Option Addr} {l : List NodeV} (limit : Nat) (cap : Nat) (hl : l.length ≤ maxLen) (hg : ∀ y ∈ l, y.Good) (w : World) (h : NodesAt w A l) :
    Calls Try.prog 38 #[.slice A l.length cap, .int .i64 (limit : Int)] w fun e w' => e = .returned (.int .i64 ((nodesWeight limit l : Nat) : Int)) ∧ Below w.heap.size w w' := by
  cases l with
  | nil => exact alikeNodes_nil limit A cap w
  | cons c l =>
    obtain ⟨b, off, rfl, _⟩ := h.form (by simp)
    exact alikeNodes_row limit b off cap _ hl hg w h
end Go.Proofs.Ytkapfijokmajlaa

/- The contract of alike.Acts: called with any acts it answers their weight, held at a limit; what was there stays as it was. Condition: no slice and no text is longer than memory. -/
namespace Go.Proofs.Ytkapfijokmajlaa
open Go.RowKit Go.Deep

def actTerms (limit : Nat) (c : ActV) : List Nat := [c.name.length, compsWeight limit c.ops, 3]
def actsWeight (limit : Nat) (l : List ActV) : Nat := wts limit 0 (l.map (actTerms limit))

set_option maxHeartbeats 1000000 in
set_option maxRecDepth 100000 in
theorem alikeActs_row (limit : Nat) (b off cap : Nat) (l : List ActV) (hl : l.length ≤ maxLen) (hg : ∀ y ∈ l, y.Good) (w : World) (hc : ActsAt w (some ⟨b, off, none⟩) l) :
    Calls Try.prog 37 #[.slice (some ⟨b, off, none⟩) l.length cap, .int .i64 (limit : Int)] w fun e w' => e = .returned (.int .i64 ((actsWeight limit l : Nat) : Int)) ∧ Below w.heap.size w w' := by
  unfold maxLen at hl
  have HC := Lib.hid hc; clear hc
  have HG := Lib.hid hg; clear hg
  obtain ⟨T, HT⟩ : ∃ T, Hid (actsWeight limit l = T) := ⟨_, rfl⟩
  rw [HT.out]
  go_enter Try.func37, Try.ntmps37
  go_wp2
  go_loopw [5, 6] (fun t i wr => ∃ k m : Nat, k ≤ l.length ∧ i = .int .i64 k ∧ t = .int .i64 (m : Int) ∧ m ≤ 1099511627776 ∧ wts limit m ((l.map (actTerms limit)).drop k) = T ∧ Below w.heap.size w wr) (fun _ i _ => l.length - (intOf i).toNat)
  case atStart => exact ⟨0, 0, Nat.zero_le _, rfl, rfl, by omega, HT.out, Below.refl _ _⟩
  case round =>
    obtain ⟨k, m, hk, rfl, rfl, hm, he, hbel⟩ := hrel
    have HE := Lib.hid he; clear he
    have HB := Lib.hid hbel; clear hbel
    by_cases hlt : k < l.length
    · have HW := Lib.hid (HE.out ▸ wts_drop limit m (l.map (actTerms limit)) k (by simpa using hlt) : T = _)
      have HX : Hid ((l.map (actTerms limit))[k]'(by simpa using hlt) = [l[k].name.length, compsWeight limit l[k].ops, 3]) := by show _ = _; rw [List.getElem_map]; rfl
      by_cases hml : m ≤ limit
      · have HCA := Lib.hid ((HC.out.below HB.out).at_ hlt)
        have hgk := HG.out _ (List.getElem_mem hlt)
        have hx1 := hgk.2.2.2.1.2
        have hx2 : l[k].ops.length ≤ maxLen := Nat.le_trans hgk.2.2.2.2.2.1 hgk.2.2.2.2.2.2
        have HCM := Lib.hid (fun (wx : World) (hh : CompsAt wx l[k].opsA l[k].ops) => alikeComps_at limit l[k].opsC hx2 hgk.2.2.2.2.1 wx hh)
        have HOP := Lib.hid (HC.out.2 _ (List.getElem_mem hlt))
        clear hgk
        unfold maxLen at hx1 hx2
        have hs1 := bstr_size l[k].name
        obtain ⟨S1, HS1⟩ : ∃ S, Hid (bstr l[k].name = S) := ⟨bstr l[k].name, Lib.hid rfl⟩
        obtain ⟨a, HA⟩ : ∃ a, Hid (l[k].name.length = a) := ⟨l[k].name.length, Lib.hid rfl⟩
        obtain ⟨c, HCC⟩ : ∃ a, Hid (compsWeight limit l[k].ops = a) := ⟨compsWeight limit l[k].ops, Lib.hid rfl⟩
        have hc40 : c ≤ 1099511627776 := by rw [← HCC.out]; exact wts_held limit _ 0 (by omega)
        obtain ⟨O, HO⟩ : ∃ a, Hid (l[k].ops = a) := ⟨l[k].ops, Lib.hid rfl⟩
        obtain ⟨OA, HOA⟩ : ∃ a, Hid (l[k].opsA = a) := ⟨l[k].opsA, Lib.hid rfl⟩
        obtain ⟨OC, HOC⟩ : ∃ a, Hid (l[k].opsC = a) := ⟨l[k].opsC, Lib.hid rfl⟩
        rw [HS1.out, HO.out, HOA.out, HOC.out] at HCA
        rw [HS1.out] at hs1
        rw [HA.out] at hs1 hx1 HX
        rw [HCC.out] at HX HCM
        rw [HO.out, HOC.out, HOA.out] at HCM
        rw [HO.out, HOA.out] at HOP
        have hk2 : Hid (wr.cell? ⟨b, off + k * 6 + 3, none⟩ = some (.string S1)) := HCA.out.2.2.2.1
        have hk4 : Hid (wr.cell? ⟨b, off + k * 6 + 5, none⟩ = some (.slice OA O.length OC)) := HCA.out.2.2.2.2.2
        have HR : Hid (wts limit (capSum m [a, c, 3]) ((l.map (actTerms limit)).drop (k + 1)) = T) := by show _ = _; rw [HW.out, if_pos hml, HX.out]
        obtain ⟨r, HRR⟩ : ∃ r, Hid (capSum m [a, c, 3] = r) := ⟨_, rfl⟩
        have hr : r ≤ 1099511627776 := by rw [← HRR.out]; exact capSum_held _ m hm
        rw [HRR.out] at HR
        have HN := Lib.hid (fun (wx : World) (t : TypeId) g hg' => nats_lit wx t #[.int .i64 (a : Int), .int .i64 (c : Int), .int .i64 3] [a, c, 3] (fun j x hx => by
          match j, hx with
          | 0, hx => cases hx; rfl
          | 1, hx => cases hx; rfl
          | 2, hx => cases hx; rfl) g hg')
        have HS := Lib.hid (fun (wx : World) g (hn : NatsAt wx g 0 [a, c, 3]) => alikeSum_row m (by omega) g 0 3 [a, c, 3] (by simp [maxLen]) (by simp; omega) wx hn)
        rw [HRR.out] at HS
        clear HW HRR HCA
        go_wp2_with fail
        refine wp_region_lit [(0, true), (1, true), (2, true), (3, true), (4, true), (5, true), (6, true), (7, true), (8, true), (9, true), (10, true), (11, true), (12, true), (13, false), (14, false), (15, false), (16, true)] (by kernel_rfl) (by kernel_rfl) (fun _ _ d _ _ h => by cases d <;> exact h) ?_
        simp only [picked, List.map_cons, List.map_nil, List.getElem?_cons_succ, List.getElem?_cons_zero, Option.getD_some]
        have hq2 := fun e : Ext wr.drew => Ext.cell (w := wr.drew) hk2.out e
        have hq4 := fun e : Ext wr.drew => Ext.cell (w := wr.drew) hk4.out e
        repeat (first | (refine wpL_quiet (by rfl) (fun K hK => ?_); go_big_quiet_op; refine hK _ ?_; clear hK K) | (refine wpL_skip (by rfl) ?_; simp only [Act.put, List.setIfInBounds_toArray, List.set_cons_zero, List.set_cons_succ]))
        clear hq2 hq4
        refine wpL_call (by rfl) (fun K hK => ?_)
        go_simp
        refine (HCM.out _ (CompsAt.drew (HOP.out.below HB.out))).mono ?_
        rintro e w1 ⟨rfl, hb1⟩
        have HB1 := Lib.hid hb1
        refine hK _ _ hb1 ?_
        clear hK K hb1
        repeat (first | (refine wpL_quiet (by rfl) (fun K hK => ?_); go_big_quiet_op; refine hK _ ?_; clear hK K) | (refine wpL_skip (by rfl) ?_; simp only [Act.put, List.setIfInBounds_toArray, List.set_cons_zero, List.set_cons_succ]))
        refine wpL_call (by rfl) (fun K hK => ?_)
        go_simp
        refine hK _ _ ((Below.refl _ _).alloc (Nat.le_refl _) _) ?_
        clear hK K
        repeat (first | (refine wpL_quiet (by rfl) (fun K hK => ?_); go_big_quiet_op; refine hK _ ?_; clear hK K) | (refine wpL_skip (by rfl) ?_; simp only [Act.put, List.setIfInBounds_toArray, List.set_cons_zero, List.set_cons_succ]))
        refine wpL_call (by rfl) (fun K hK => ?_)
        go_simp
        refine (HS.out _ _ (HN.out w1 _ _ rfl)).mono ?_
        rintro e w2 ⟨rfl, rfl⟩
        refine hK _ _ (Below.refl _ _) ?_
        clear hK K
        repeat (first | (refine wpL_quiet (by rfl) (fun K hK => ?_); go_big_quiet_op; refine hK _ ?_; clear hK K) | (refine wpL_skip (by rfl) ?_; simp only [Act.put, List.setIfInBounds_toArray, List.set_cons_zero, List.set_cons_succ]))
        refine wpL_nil ?_
        go_wp2
        go_roundw
        case rel => exact ⟨k + 1, r, by omega, by go_num, rfl, hr, HR.out, balloc (bstep HB.out.drew HB1.out) _⟩
        case measure => simp [intOf]; omega
      · have HR : Hid (m = T) := by show _ = _; rw [HW.out, if_neg hml]
        have hml' : limit < m := by omega
        go_wp2
        go_ret
        exact ⟨by rw [← HR.out]; rfl, HB.out⟩
    · have HR : Hid (m = T) := by
        show m = T
        rw [← HE.out, List.drop_eq_nil_of_le (by simp; omega), wts_nil]
      go_wp2
      go_ret
      exact ⟨by rw [← HR.out]; rfl, HB.out⟩
theorem alikeActs_nil (limit : Nat) (A : Option Addr) (cap : Nat) (w : World) :
    Calls Try.prog 37 #[.slice A 0 cap, .int .i64 (limit : Int)] w fun e w' => e = .returned (.int .i64 ((actsWeight limit [] : Nat) : Int)) ∧ Below w.heap.size w w' := by
  have HR : Hid (0 = actsWeight limit []) := by show 0 = actsWeight limit []; rw [actsWeight, List.map_nil, wts_nil]
  go_enter Try.func37, Try.ntmps37
  go_wp2
  refine wp_loop_rounds 1 ?_
  rw [rounds_succ]
  go_wp2
  go_ret
  exact ⟨by rw [← HR.out]; rfl, Below.refl _ _⟩
theorem alikeActs_at {A : Option Addr} {l : List ActV} (limit : Nat) (cap : Nat) (hl : l.length ≤ maxLen) (hg : ∀ y ∈ l, y.Good) (w : World) (h : ActsAt w A l) :
    Calls Try.prog 37 #[.slice A l.length cap, .int .i64 (limit : Int)] w fun e w' => e = .returned (.int .i64 ((actsWeight limit l : Nat) : Int)) ∧ Below w.heap.size w w' := by
  cases l with
  | nil => exact alikeActs_nil limit A cap w
  | cons c l =>
    obtain ⟨b, off, rfl, _⟩ := h.form (by simp)
    exact alikeActs_row limit b off cap _ hl hg w h
end Go.Proofs.Ytkapfijokmajlaa

/- The contract of the statements' own small, over the items that they are called with: it tells whether their weight is within 3000; what was there stays as it was. Condition: no slice and no text is longer than memory. -/
namespace Go.Proofs.Ytkapfijokmajlaa
open Go.RowKit Go.Deep

def itemTerms (c : ItemV) : List Nat := [c.s.length, compsWeight 3000 c.comps, actsWeight 3000 c.acts, nodesWeight 3000 c.nodes, 4]
def itemsWeight (l : List ItemV) : Nat := wts 3000 0 (l.map itemTerms)

set_option maxHeartbeats 2000000 in
set_option maxRecDepth 100000 in
theorem small_row (b off cap : Nat) (l : List ItemV) (hl : l.length ≤ maxLen) (hg : ∀ y ∈ l, y.Good) (w : World) (hc : ItemsAt w (some ⟨b, off, none⟩) l) :
    Calls Try.prog 7 #[.slice (some ⟨b, off, none⟩) l.length cap] w fun e w' => e = .returned (.bool (decide (itemsWeight l ≤ 3000))) ∧ Below w.heap.size w w' := by
  unfold maxLen at hl
  have HC := Lib.hid hc; clear hc
  have HG := Lib.hid hg; clear hg
  obtain ⟨T, HT⟩ : ∃ T, Hid (itemsWeight l = T) := ⟨_, rfl⟩
  rw [HT.out]
  go_enter Try.func7, Try.ntmps7
  go_wp2
  go_loopw [3, 4] (fun t i wr => ∃ k m : Nat, k ≤ l.length ∧ i = .int .i64 k ∧ t = .int .i64 (m : Int) ∧ m ≤ 1099511627776 ∧ wts 3000 m ((l.map itemTerms).drop k) = T ∧ Below w.heap.size w wr) (fun _ i _ => l.length - (intOf i).toNat)
  case atStart => exact ⟨0, 0, Nat.zero_le _, rfl, rfl, by omega, HT.out, Below.refl _ _⟩
  case round =>
    obtain ⟨k, m, hk, rfl, rfl, hm, he, hbel⟩ := hrel
    have HE := Lib.hid he; clear he
    have HB := Lib.hid hbel; clear hbel
    by_cases hlt : k < l.length
    · have HW := Lib.hid (HE.out ▸ wts_drop 3000 m (l.map itemTerms) k (by simpa using hlt) : T = _)
      obtain ⟨Y, HY⟩ : ∃ Y, Hid (l[k] = Y) := ⟨l[k], Lib.hid rfl⟩
      have HX : Hid ((l.map itemTerms)[k]'(by simpa using hlt) = itemTerms Y) := by show _ = _; rw [List.getElem_map, HY.out]
      by_cases hml : m ≤ 3000
      · have hgk := HG.out _ (List.getElem_mem hlt)
        have hcells := fun f hf => (HC.out.below HB.out).at_ hlt f hf
        have hats := HC.out.2 _ (List.getElem_mem hlt)
        rw [HY.out] at hgk hats
        simp only [HY.out] at hcells
        obtain ⟨yk, yn, ys, yy, cA, cC, cs, aA, aC, acts_, nA, nC, ns⟩ := Y
        obtain ⟨_, _, hgs, hgc, hga, hgn, hlc, hla, hln⟩ := hgk
        obtain ⟨hatc, hata, hatn⟩ := hats
        have hx1 := hgs.2
        have hq2 : Hid (wr.cell? ⟨b, off + k * 7 + 2, none⟩ = some (.string (bstr ys))) := by show _ = _; rw [Nat.add_assoc]; exact hcells 2 (by omega)
        have hq4 : Hid (wr.cell? ⟨b, off + k * 7 + 4, none⟩ = some (.slice cA cs.length cC)) := by show _ = _; rw [Nat.add_assoc]; exact hcells 4 (by omega)
        have hq5 : Hid (wr.cell? ⟨b, off + k * 7 + 5, none⟩ = some (.slice aA acts_.length aC)) := by show _ = _; rw [Nat.add_assoc]; exact hcells 5 (by omega)
        have hq6 : Hid (wr.cell? ⟨b, off + k * 7 + 6, none⟩ = some (.slice nA ns.length nC)) := by show _ = _; rw [Nat.add_assoc]; exact hcells 6 (by omega)
        have GC := Lib.hid (fun (wx : World) (hh : CompsAt wx cA cs) => alikeComps_at 3000 cC hlc hgc wx hh)
        have GA := Lib.hid (fun (wx : World) (hh : ActsAt wx aA acts_) => alikeActs_at 3000 aC hla hga wx hh)
        have GN := Lib.hid (fun (wx : World) (hh : NodesAt wx nA ns) => alikeNodes_at 3000 nC hln hgn wx hh)
        have HATC := Lib.hid (hatc.below HB.out)
        have HATA := Lib.hid (hata.below HB.out)
        have HATN := Lib.hid (hatn.below HB.out)
        simp only at hx1
        unfold maxLen at hx1
        have hs1 := bstr_size ys
        have HX2 : Hid (itemTerms ⟨yk, yn, ys, yy, cA, cC, cs, aA, aC, acts_, nA, nC, ns⟩ = [ys.length, compsWeight 3000 cs, actsWeight 3000 acts_, nodesWeight 3000 ns, 4]) := rfl
        rw [HX2.out] at HX
        have hwc : compsWeight 3000 cs ≤ 1099511627776 := wts_held 3000 _ 0 (by omega)
        have hwa : actsWeight 3000 acts_ ≤ 1099511627776 := wts_held 3000 _ 0 (by omega)
        have hwn : nodesWeight 3000 ns ≤ 1099511627776 := wts_held 3000 _ 0 (by omega)
        obtain ⟨S1, HS1⟩ : ∃ S, Hid (bstr ys = S) := ⟨_, rfl⟩
        obtain ⟨a, HA⟩ : ∃ a, Hid (ys.length = a) := ⟨_, rfl⟩
        obtain ⟨x1, HX1⟩ : ∃ a, Hid (compsWeight 3000 cs = a) := ⟨_, rfl⟩
        obtain ⟨x2, HX22⟩ : ∃ a, Hid (actsWeight 3000 acts_ = a) := ⟨_, rfl⟩
        obtain ⟨x3, HX3⟩ : ∃ a, Hid (nodesWeight 3000 ns = a) := ⟨_, rfl⟩
        rw [HS1.out] at hq2 hs1
        rw [HA.out, HX1.out, HX22.out, HX3.out] at HX
        rw [HA.out] at hs1 hx1
        rw [HX1.out] at hwc GC
        rw [HX22.out] at hwa GA
        rw [HX3.out] at hwn GN
        have HR : Hid (wts 3000 (capSum m [a, x1, x2, x3, 4]) ((l.map itemTerms).drop (k + 1)) = T) := by show _ = _; rw [HW.out, if_pos hml, HX.out]
        obtain ⟨r, HRR⟩ : ∃ r, Hid (capSum m [a, x1, x2, x3, 4] = r) := ⟨_, rfl⟩
        have hr : r ≤ 1099511627776 := by rw [← HRR.out]; exact capSum_held _ m hm
        rw [HRR.out] at HR
        have HN := Lib.hid (fun (wx : World) (t : TypeId) g hg' => nats_lit wx t #[.int .i64 (a : Int), .int .i64 (x1 : Int), .int .i64 (x2 : Int), .int .i64 (x3 : Int), .int .i64 4] [a, x1, x2, x3, 4] (fun j x hx => by
          match j, hx with
          | 0, hx => cases hx; rfl
          | 1, hx => cases hx; rfl
          | 2, hx => cases hx; rfl
          | 3, hx => cases hx; rfl
          | 4, hx => cases hx; rfl) g hg')
        have HS := Lib.hid (fun (wx : World) g (hn : NatsAt wx g 0 [a, x1, x2, x3, 4]) => alikeSum_row m (by omega) g 0 5 [a, x1, x2, x3, 4] (by simp [maxLen]) (by simp; omega) wx hn)
        rw [HRR.out] at HS
        clear HW HRR hcells hatc hata hatn hgs hgc hga hgn hlc hla hln HX2
        go_wp2_with fail
        refine wp_region_lit [(0, true), (1, true), (2, true), (3, true), (4, true), (5, true), (6, true), (7, true), (8, true), (9, true), (10, true), (11, true), (13, true), (14, true), (15, true), (16, true), (17, true), (19, true), (20, true), (21, true), (22, true), (23, true), (12, false), (18, false), (24, false), (25, false), (26, false), (27, true)] (by kernel_rfl) (by kernel_rfl) (fun _ _ d _ _ h => by cases d <;> exact h) ?_
        simp only [picked, List.map_cons, List.map_nil, List.getElem?_cons_succ, List.getElem?_cons_zero, Option.getD_some]
        have hp2 := fun e : Ext wr.drew => Ext.cell (w := wr.drew) hq2.out e
        have hp4 := fun e : Ext wr.drew => Ext.cell (w := wr.drew) hq4.out e
        have hp5 := fun e : Ext wr.drew => Ext.cell (w := wr.drew) hq5.out e
        have hp6 := fun e : Ext wr.drew => Ext.cell (w := wr.drew) hq6.out e
        repeat (first | (refine wpL_quiet (by rfl) (fun K hK => ?_); go_big_quiet_op; refine hK _ ?_; clear hK K) | (refine wpL_skip (by rfl) ?_; simp only [Act.put, List.setIfInBounds_toArray, List.set_cons_zero, List.set_cons_succ]))
        clear hp2 hp4 hp5 hp6
        refine wpL_call (by rfl) (fun K hK => ?_)
        go_simp
        refine (GC.out _ (HATC.out.drew)).mono ?_
        rintro e w1 ⟨rfl, hb1⟩
        have HB1 := Lib.hid hb1
        refine hK _ _ hb1 ?_
        clear hK K hb1
        repeat (first | (refine wpL_quiet (by rfl) (fun K hK => ?_); go_big_quiet_op; refine hK _ ?_; clear hK K) | (refine wpL_skip (by rfl) ?_; simp only [Act.put, List.setIfInBounds_toArray, List.set_cons_zero, List.set_cons_succ]))
        refine wpL_call (by rfl) (fun K hK => ?_)
        go_simp
        refine (GA.out _ ((HATA.out.drew).below HB1.out)).mono ?_
        rintro e w2 ⟨rfl, hb2⟩
        have HB2 := Lib.hid hb2
        refine hK _ _ hb2 ?_
        clear hK K hb2
        repeat (first | (refine wpL_quiet (by rfl) (fun K hK => ?_); go_big_quiet_op; refine hK _ ?_; clear hK K) | (refine wpL_skip (by rfl) ?_; simp only [Act.put, List.setIfInBounds_toArray, List.set_cons_zero, List.set_cons_succ]))
        refine wpL_call (by rfl) (fun K hK => ?_)
        go_simp
        refine (GN.out _ (((HATN.out.drew).below HB1.out).below HB2.out)).mono ?_
        rintro e w3 ⟨rfl, hb3⟩
        have HB3 := Lib.hid hb3
        refine hK _ _ hb3 ?_
        clear hK K hb3
        repeat (first | (refine wpL_quiet (by rfl) (fun K hK => ?_); go_big_quiet_op; refine hK _ ?_; clear hK K) | (refine wpL_skip (by rfl) ?_; simp only [Act.put, List.setIfInBounds_toArray, List.set_cons_zero, List.set_cons_succ]))
        refine wpL_call (by rfl) (fun K hK => ?_)
        go_simp
        refine hK _ _ ((Below.refl _ _).alloc (Nat.le_refl _) _) ?_
        clear hK K
        repeat (first | (refine wpL_quiet (by rfl) (fun K hK => ?_); go_big_quiet_op; refine hK _ ?_; clear hK K) | (refine wpL_skip (by rfl) ?_; simp only [Act.put, List.setIfInBounds_toArray, List.set_cons_zero, List.set_cons_succ]))
        refine wpL_call (by rfl) (fun K hK => ?_)
        go_simp
        refine (HS.out _ _ (HN.out w3 _ _ rfl)).mono ?_
        rintro e w4 ⟨rfl, rfl⟩
        refine hK _ _ (Below.refl _ _) ?_
        clear hK K
        repeat (first | (refine wpL_quiet (by rfl) (fun K hK => ?_); go_big_quiet_op; refine hK _ ?_; clear hK K) | (refine wpL_skip (by rfl) ?_; simp only [Act.put, List.setIfInBounds_toArray, List.set_cons_zero, List.set_cons_succ]))
        refine wpL_nil ?_
        go_wp2
        go_roundw
        case rel => exact ⟨k + 1, r, by omega, by go_num, rfl, hr, HR.out, balloc (bstep (bstep (bstep HB.out.drew HB1.out) HB2.out) HB3.out) _⟩
        case measure => simp [intOf]; omega
      · have HR : Hid (m = T) := by show _ = _; rw [HW.out, if_neg hml]
        have hml' : 3000 < m := by omega
        have hd : Hid (decide (T ≤ 3000) = decide ((m : Int) ≤ 3000)) := by show _ = _; rw [← HR.out]; exact decide_eq_decide.2 (by omega)
        go_wp2
        go_ret
        exact ⟨by rw [hd.out]; rfl, HB.out⟩
    · have HR : Hid (m = T) := by
        show m = T
        rw [← HE.out, List.drop_eq_nil_of_le (by simp; omega), wts_nil]
      have hd : Hid (decide (T ≤ 3000) = decide ((m : Int) ≤ 3000)) := by show _ = _; rw [← HR.out]; exact decide_eq_decide.2 (by omega)
      go_wp2
      go_ret
      exact ⟨by rw [hd.out]; rfl, HB.out⟩
theorem small_nil (A : Option Addr) (cap : Nat) (w : World) :
    Calls Try.prog 7 #[.slice A 0 cap] w fun e w' => e = .returned (.bool (decide (itemsWeight [] ≤ 3000))) ∧ Below w.heap.size w w' := by
  have HR : Hid (0 = itemsWeight []) := by show 0 = itemsWeight []; rw [itemsWeight, List.map_nil, wts_nil]
  go_enter Try.func7, Try.ntmps7
  go_wp2
  refine wp_loop_rounds 1 ?_
  rw [rounds_succ]
  go_wp2
  go_ret
  exact ⟨by rw [← HR.out]; rfl, Below.refl _ _⟩
theorem small_at {A : Option Addr} {l : List ItemV} (cap : Nat) (hl : l.length ≤ maxLen) (hg : ∀ y ∈ l, y.Good) (w : World) (h : ItemsAt w A l) :
    Calls Try.prog 7 #[.slice A l.length cap] w fun e w' => e = .returned (.bool (decide (itemsWeight l ≤ 3000))) ∧ Below w.heap.size w w' := by
  cases l with
  | nil => exact small_nil A cap w
  | cons c l =>
    obtain ⟨b, off, rfl, _⟩ := h.form (by simp)
    exact small_row b off cap _ hl hg w h
end Go.Proofs.Ytkapfijokmajlaa
