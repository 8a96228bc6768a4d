/- JournalPlays holds: whatever is appended and begun anew, each call answers, base and records are shown, what was refused changes nothing, opened again it is the same: whatever number of sectors and steps the law is called with: it answers true and changes nothing. No condition. (Merged of 8 texts.) -/
import Derived.Test.YtahfkcfbmklfpaaCells
import Derived.Test.YtahfkcfbmklfpaaInts
import Derived.Test.YtahfkcfbmklfpaaHJKeeps
import Derived.Test.YtahfkcfbmklfpaaHJAwake
import Derived.Test.YtahfkcfbmklfpaaBstr
import Derived.Laws.IdiomStrings
import Derived.Laws.Cover3
import Derived.ChangeMaps5
/- Records in slices that come in: an integer, a bool, a text out of a record's cells; records put together to one list. Condition: no slice and no text is longer than memory. -/
namespace Go.Proofs.Ytahfkcfbmklfpaa
open Go.ChangeShapes Go.WideShapes Go.ChangeAt Go.RowKit Go.Deep

/-- A number that an int may hold. -/
def Fit64 (n : Int) : Prop := -9223372036854775808 ≤ n ∧ n ≤ 9223372036854775807
/-- Bytes of a text. -/
def Bytes (l : List Nat) : Prop := (∀ x ∈ l, x < 256) ∧ l.length ≤ maxLen
section
variable {H : Type} {enc : TypeId × Value → H} {w : World}
theorem fit_of_wf {n : Int} (h : (Lit.int .i64 n).wf = true) : Fit64 n := by simpa [Fit64, Lit.wf, IntKind.min, IntKind.max, IntKind.signed, IntKind.bits] using h
theorem bytes_of (s : ByteArray) (h : s.size ≤ maxLen) : ∃ l, Bytes l ∧ s = bstr l := by
  obtain ⟨l, hl, rfl⟩ := bstr_any s
  exact ⟨l, ⟨hl, by rw [bstr_size] at h; exact h⟩, rfl⟩

/-- The records of a slice, one by one, put together to one list. -/
theorem cellsAt_of {α : Type} (cells : α → List Value) (k : Nat) (hk : 0 < k) (hc : ∀ x, (cells x).length = k) {A : Option Addr} {n : Nat} (f : Nat → α) (hform : 0 < n * k → ∃ b off, A = some ⟨b, off, none⟩ ∧ b < w.heap.size)
    (h : ∀ i, i < n → ∀ b off, A = some ⟨b, off, none⟩ → ∀ j, j < k → w.cell? ⟨b, off + (i * k + j), none⟩ = (cells (f i))[j]?) : CellsAt w A (((List.range n).map f).flatMap cells) := by
  by_cases h0 : n = 0
  · subst h0
    exact .inl rfl
  · obtain ⟨b, off, rfl, hb⟩ := hform (Nat.mul_pos (by omega) hk)
    refine .inr ⟨b, off, rfl, hb, fun j v hj => ?_⟩
    obtain ⟨i, q, hi, hq, rfl, hv⟩ := flat_lt hc hk hj
    rw [List.length_map, List.length_range] at hi
    rw [h i hi b off rfl q hq, ← hv]
    simp

theorem take_one {R : List Value} {o : Nat} {v : Value} (h : (R.drop o).take 1 = [v]) : R[o]? = some v := by
  have h2 := congrArg (fun l : List Value => l[0]?) h
  simpa using h2
set_option maxRecDepth 100000 in
theorem rec_int {R : List Value} {y : DataW H × List MemPlace} {m o : Nat} (h : DataW.trod enc Try.prog w 0 (fun _ => true) true m 3 ((R.drop o).take (Try.prog.cellsOf 3)) = some y) : ∃ n, R[o]? = some (.int .i64 n) ∧ Fit64 n := by
  obtain ⟨n, e, _, hw⟩ := DataW.trod_int Try.underlying3 h
  rw [show Try.prog.cellsOf 3 = 1 by kernel_rfl] at e
  exact ⟨n, take_one e, fit_of_wf hw⟩
set_option maxRecDepth 100000 in
theorem rec_bool {R : List Value} {y : DataW H × List MemPlace} {m o : Nat} (h : DataW.trod enc Try.prog w 0 (fun _ => true) true m 4 ((R.drop o).take (Try.prog.cellsOf 4)) = some y) : ∃ b, R[o]? = some (.bool b) := by
  obtain ⟨b, e, _⟩ := DataW.trod_bool Try.underlying4 h
  rw [show Try.prog.cellsOf 4 = 1 by kernel_rfl] at e
  exact ⟨b, take_one e⟩
set_option maxRecDepth 100000 in
theorem rec_text {R : List Value} {y : DataW H × List MemPlace} {m o : Nat} (h : DataW.trod enc Try.prog w 0 (fun _ => true) true m 9 ((R.drop o).take (Try.prog.cellsOf 9)) = some y) : ∃ l, R[o]? = some (.string (bstr l)) ∧ Bytes l := by
  obtain ⟨s, e, _, hs⟩ := DataW.trod_string Try.underlying9 h
  rw [show Try.prog.cellsOf 9 = 1 by kernel_rfl] at e
  obtain ⟨l, hl, rfl⟩ := bytes_of s hs
  exact ⟨l, take_one e, hl⟩
end
end Go.Proofs.Ytahfkcfbmklfpaa

/- The steps that the statements on disk are called with: what they hold, as which cells they lie, and how such an argument is opened. Condition: no slice is longer than memory. -/
namespace Go.Proofs.Ytahfkcfbmklfpaa
open Go.ChangeShapes Go.WideShapes Go.ChangeAt Go.RowKit Go.Deep

/-- A step. -/
structure StepV where
  kind : Int
  at_ : Int
  n : Int
instance : Inhabited StepV := ⟨⟨0, 0, 0⟩⟩
def StepV.Good (c : StepV) : Prop := Fit64 c.kind ∧ Fit64 c.at_ ∧ Fit64 c.n
def stepCells (c : StepV) : List Value := [.int .i64 c.kind, .int .i64 c.at_, .int .i64 c.n]
theorem stepCells_length (c : StepV) : (stepCells c).length = 3 := rfl
def StepsAt (w : World) (A : Option Addr) (l : List StepV) : Prop := CellsAt w A (l.flatMap stepCells)
theorem StepsAt.below {w w' : World} {A : Option Addr} {l : List StepV} (h : StepsAt w A l) (hb : Below w.heap.size w w') : StepsAt w' A l := CellsAt.below h hb
theorem StepsAt.form {w : World} {A : Option Addr} {l : List StepV} (h : StepsAt w A l) (h0 : 0 < l.length) : ∃ b off, A = some ⟨b, off, none⟩ ∧ b < w.heap.size :=
  CellsAt.form h (by intro e; have := congrArg List.length e; rw [flat_length stepCells 3 stepCells_length] at this; simp at this; omega)
theorem StepsAt.at_ {w : World} {b off : Nat} {l : List StepV} (h : StepsAt w (some ⟨b, off, none⟩) l) {i : Nat} (hi : i < l.length) :
    w.cell? ⟨b, off + i * 3, none⟩ = some (.int .i64 l[i].kind) ∧ w.cell? ⟨b, off + i * 3 + 1, none⟩ = some (.int .i64 l[i].at_) ∧ w.cell? ⟨b, off + i * 3 + 2, none⟩ = some (.int .i64 l[i].n) := by
  refine ⟨?_, ?_, ?_⟩
  · exact CellsAt.cell h (j := i * 3 + 0) (by rw [flat_get stepCells 3 stepCells_length l i hi 0 (by omega)]; rfl)
  · rw [Nat.add_assoc]; exact CellsAt.cell h (by rw [flat_get stepCells 3 stepCells_length l i hi 1 (by omega)]; rfl)
  · rw [Nat.add_assoc]; exact CellsAt.cell h (by rw [flat_get stepCells 3 stepCells_length l i hi 2 (by omega)]; rfl)
set_option maxRecDepth 100000 in
theorem open_steps {H : Type} {enc : TypeId × Value → H} {w : World} {base : Nat} {v : Value} {d : DataW H} {p : List MemPlace} (hv : Value.okWide Try.prog w .any base 22 v) (h : DataW.Trod enc Try.prog w 0 (fun _ => true) true 22 v d p) (hlt : ∀ x ∈ p, x.block < w.heap.size) :
    ∃ A l c, v = .slice A (List.length l) c ∧ StepsAt w A l ∧ (∀ y ∈ l, y.Good) ∧ l.length ≤ c ∧ c ≤ maxLen := by
  obtain ⟨a0, len, cap0, rfl⟩ := okWide_slice Try.underlying22 hv
  obtain ⟨fuel, hfu⟩ := h
  obtain ⟨A, n, cap, m, hcs, hn, hcap, hform, hrec⟩ := open_records (k := 3) Try.underlying22 Try.underlying36 (by kernel_rfl) hfu hlt
  have each : ∀ i, i < n → ∃ y : StepV, y.Good ∧ ∀ b off, A = some ⟨b, off, none⟩ → ∀ j, j < 3 → w.cell? ⟨b, off + (i * 3 + j), none⟩ = (stepCells y)[j]? := by
    intro i hi
    obtain ⟨R, hR, hcell, hf⟩ := hrec i hi
    obtain ⟨y0, h0, _⟩ := hf 0 _ rfl
    obtain ⟨y1, h1, _⟩ := hf 1 _ rfl
    obtain ⟨y2, h2, _⟩ := hf 2 _ rfl
    obtain ⟨k0, e0, w0⟩ := rec_int (o := 0) h0
    obtain ⟨k1, e1, w1⟩ := rec_int (o := 1) h1
    obtain ⟨k2, e2, w2⟩ := rec_int (o := 2) h2
    match R, hR with
    | [r0, r1, r2], _ =>
      simp only [List.getElem?_cons_zero, List.getElem?_cons_succ, Option.some.injEq] at e0 e1 e2
      subst e0 e1 e2
      exact ⟨⟨k0, k1, k2⟩, ⟨w0, w1, w2⟩, hcell⟩
  obtain ⟨f, hf⟩ := choose_lt each
  simp only [Value.cells, List.cons.injEq, and_true] at hcs
  refine ⟨A, (List.range n).map f, cap, by rw [hcs]; simp, cellsAt_of stepCells 3 (by omega) stepCells_length f hform (fun i hi => (hf i hi).2), ?_, by simpa using hn, hcap⟩
  intro y hy
  obtain ⟨i, hi, rfl⟩ := List.mem_map.1 hy
  exact (hf i (List.mem_range.1 hi)).1
end Go.Proofs.Ytahfkcfbmklfpaa

/- append([][]byte{}, l...): the same rows, in a list of its own. Condition: no more than 2^40 of them. -/
namespace Go.Proofs.Ytahfkcfbmklfpaa
open Go.RowKit Go.Deep

theorem run_rows_copy {P : Nat → Prop} {w : World} {A : Option Addr} {c : Nat} {l : List (List Nat)} (h : RowsL P w A c l) (hl : l.length ≤ 1099511627776) (hP : ∀ k, w.heap.size ≤ k → P k) (ty : TypeId) (n : Nat) (hnl : n = l.length) :
    ∃ A' c' w', (Builtin.append_ #[32, 32] ty #[.slice (some ⟨w.heap.size, 0, none⟩) 0 0, .slice A n c]).run Try.prog (w.alloc (.cells #[] 31)) = .ok (.slice A' n c') w' ∧
      RowsL P w' A' c' l ∧ Below w.heap.size w w' ∧ (∀ a, A' = some a → w.heap.size ≤ a.block) ∧ w.heap.size < w'.heap.size := by
  subst hnl
  obtain ⟨i0, hi0, hz0, hz1, hz2⟩ := info_parts slice_info
  obtain ⟨L, rfl, h2, h3, h4⟩ := h
  rw [List.length_map] at hl ⊢
  have hb : Below w.heap.size w (w.alloc (.cells #[] 31)) := (Below.refl _ _).alloc (Nat.le_refl _) _
  have hown : (w.alloc (.cells #[] 31)).ownsRow w.heap.size 31 1 (.slice (some ⟨w.heap.size, 0, none⟩) 0 0) 0 [] := World.ownsRow_lit w #[] 0 (Nat.le_refl _) (by simp [maxLen]) rfl
  have done : ∀ v' w', (w').ownsRow w.heap.size 31 1 v' L.length (L.map rowVal) → Below w.heap.size w w' → w.heap.size < w'.heap.size →
      ∃ A' c', v' = .slice A' L.length c' ∧ RowsL P w' A' c' (L.map fun x => x.2.2) ∧ Below w.heap.size w w' ∧ (∀ a, A' = some a → w.heap.size ≤ a.block) ∧ w.heap.size < w'.heap.size := by
    intro v' w' ho hb' hs'
    obtain ⟨A', c', rfl⟩ := own_slice ho
    have hA' : ∀ a, A' = some a → w.heap.size ≤ a.block ∧ a.block < w'.heap.size := fun a ha => by
      subst ha
      exact ho.lt a.block rfl
    refine ⟨A', c', rfl, ⟨L, rfl, own_zero ho, fun a ha => ⟨hP _ (hA' a ha).1, (hA' a ha).2⟩, fun x hx => ?_⟩, hb', fun a ha => (hA' a ha).1, hs'⟩
    obtain ⟨h5, h6⟩ := h4 x hx
    exact ⟨h5.below hb', fun a ha => ⟨(h6 a ha).1, Nat.lt_of_lt_of_le (h6 a ha).2.1 hb'.size, fun y hy e => by have := (h6 a ha).2.1; have := (hA' y hy).1; omega⟩⟩
  cases A with
  | none =>
    have hL : L.length = 0 := by
      rcases h2.2 with ⟨h, h'⟩ | ⟨g, cap, cur, h, _⟩
      · exact h'
      · cases h
    obtain ⟨A', c', e, hrest⟩ := done (.slice (some ⟨w.heap.size, 0, none⟩) 0 0) _ (by rw [hL, List.eq_nil_of_length_eq_zero hL]; exact hown) hb (by simp)
    refine ⟨A', c', _, ?_, hrest⟩
    rw [← e, hL]
    exact run_append_nil _ w.heap.size _ ty _ i0 1 Try.underlying32 hi0 _ 0 _ hown c
  | some a =>
    obtain ⟨g, cap, e, _, hlt⟩ : ∃ g cap, a = ⟨g, 0, none⟩ ∧ c = cap ∧ g < w.heap.size := by
      have := (h3 a rfl).2
      rcases h2.2 with ⟨h, _⟩ | ⟨g, cap, cur, h, _⟩
      · cases h
      · injection h with h _ hc
        injection h with h
        exact ⟨g, cap, h, hc, by rw [h] at this; exact this⟩
    subst e
    obtain ⟨v', w', hrun, ho, hg, _, hw⟩ := run_append_own_at (P := Try.prog) (w.alloc (.cells #[] 31)) w.heap.size 32 ty 31 i0 (.slice none 0 0) 1 24 Try.underlying32 hi0 hz0 hz1 hz2 rfl (by omega) _ 0 [] hown ⟨g, 0, none⟩ L.length c (L.map rowVal)
      (by simp) (fun j u hu => by
        have hj : j < L.length := by simpa using (List.getElem?_eq_some_iff.1 hu).1
        rw [Go.WideShapes.add_plain, Nat.zero_add]
        have e2 : c = c := rfl
        have hc := (h2.alloc (.cells #[] 31)).cellAt j (by simpa using hj)
        rw [hc]
        exact hu) (fun u hu => by obtain ⟨x, _, rfl⟩ := List.mem_map.1 hu; rfl) (by simp only [maxLen]; omega) (by omega) (by simp)
    rw [List.nil_append, Nat.zero_add] at ho
    have hb' : Below w.heap.size w w' := hb.grown hg (by simp) (fun k hk => by simp [Value.ownBlock] at hk; omega)
    obtain ⟨A', c', e, hrest⟩ := done v' w' ho hb' (Nat.lt_of_lt_of_le (by simp) hg.size)
    refine ⟨A', c', w', ?_, hrest⟩
    rw [← e]
    exact hrun
theorem wp_rows_copy {P : Nat → Prop} {w : World} {o : Oper} {a : Act} {K : Act → World → Prop} {Q : Exit → Act → World → Prop} (s x : Operand)
    (ho : o.op = .call { callee := .builtin .append, args := #[s, x], argTypes := #[32, 32] })
    (A : Option Addr) (c : Nat) (l : List (List Nat)) (h : RowsL P w A c l) (hl : l.length ≤ 1099511627776) (hP : ∀ k, w.heap.size ≤ k → P k) (n : Nat) (hnl : n = l.length)
    (hs : a.eval s = .slice (some ⟨w.heap.size, 0, none⟩) 0 0) (hx : a.eval x = .slice A n c)
    (hK : ∀ A' c' w', RowsL P w' A' c' l → Below w.heap.size w w' → w.heap.size < w'.heap.size → (∀ a, A' = some a → w.heap.size ≤ a.block) → K (a.put o.dst (.slice A' n c')) w') :
    o.wp Try.prog a (w.alloc (.cells #[] 31)) K Q := by
  obtain ⟨A', c', w', hrun, h1, h2, h4, h3⟩ := run_rows_copy h hl hP o.type n hnl
  unfold Oper.wp execOp
  simp only [ho, resolve, invoke, builtin, Sem.run_bind, Sem.run_pure, Result.andThen_ok, List.map_toArray, List.map_cons, List.map_nil, hs, hx, hrun]
  exact hK A' c' w' h1 h2 h3 h4
end Go.Proofs.Ytahfkcfbmklfpaa

/- The contract of the statements' own 'data' once more: its block is one that is there. No condition. -/
namespace Go.Proofs.Ytahfkcfbmklfpaa
open Go.RowKit Go.Deep
open Go.RowKit Go.Deep

theorem conv_str_new (l : List Nat) (hb : ∀ x ∈ l, x < 256) (w : World) : ∃ cap w', (convert 9 31 (.string (bstr l))).run Try.prog w = .ok (.slice (some ⟨w.heap.size, 0, none⟩) l.length cap) w' ∧
    BytesAt w' (some ⟨w.heap.size, 0, none⟩) l ∧ Below w.heap.size w w' ∧ l.length ≤ cap ∧ w.heap.size < w'.heap.size := by
  have h := run_bytes_of_string (P := Try.prog) w 9 31 5 (bstr l) Try.underlying9 Try.underlying31 Try.underlying5
  rw [bstr_size] at h
  refine ⟨_, _, h, ?_, ?_, grownCap_ge _ _ _ _, by show w.heap.size < ((w.drew).alloc _).heap.size; simp⟩
  · refine BytesAt.lit (w := w.drew) (fun j x hj => ?_) rfl
    have hjl : j < l.length := (List.getElem?_eq_some_iff.1 hj).1
    have hx := hb x (List.mem_of_getElem? hj)
    have h1 : (bstr l).data[j]? = some (UInt8.ofNat x) := by
      rw [← Array.getElem?_toList, bstr_data, List.getElem?_map, hj]; rfl
    obtain ⟨hd, h2⟩ := Array.getElem?_eq_some_iff.1 h1
    rw [bytesRow_at _ _ j hd, h2]
    simp
    omega
  · exact ((Below.refl _ _).drew).alloc (Nat.le_refl _) _
set_option maxHeartbeats 1000000 in
set_option maxRecDepth 100000 in
theorem data_new (kd n k : Int) (w : World) :
    Calls Try.prog 12 #[.agg #[.int .i64 kd, .int .i64 n, .int .i64 k]] w fun e w' => (∃ a c, e = .returned (.slice (some ⟨a, 0, none⟩) (dataL n k).length c) ∧ BytesAt w' (some ⟨a, 0, none⟩) (dataL n k) ∧ w.heap.size ≤ a ∧ a < w'.heap.size) ∧ Below w.heap.size w w' := by
  have GR := Lib.hid (fun w => alikeRound_any n 300 (by omega) (by omega) w)
  have hrl := rnd_lt n (n := 300) (by omega)
  have HDL : Hid (dataL n k = blks (rnd n 300) k) := rfl
  have HLT := Lib.hid (dataL_lt n k)
  have HLEN := Lib.hid (dataL_length n k).1
  obtain ⟨m, HM⟩ : ∃ m, Hid (rnd n 300 = m) := ⟨_, Lib.hid rfl⟩
  rw [HM.out] at GR hrl HDL HLEN
  have GB := Lib.hid (fun w => blocks_any m (by omega) k w)
  rw [← HDL.out] at GB
  obtain ⟨D, HD⟩ : ∃ D, Hid (dataL n k = D) := ⟨_, Lib.hid rfl⟩
  rw [HD.out] at GB HLT HLEN ⊢
  have GC := Lib.hid (fun w => conv_str_new D HLT.out w)
  go_enter Try.func12, Try.ntmps12
  go_wp2_with fail
  have HB0 : Hid (Below w.heap.size w (w.alloc (.cells #[.int .i64 kd, .int .i64 n, .int .i64 k] 36))) := (Below.refl _ _).alloc (Nat.le_refl _) _
  have HCE : Hid (∀ e : ExtK (keepBlocks [w.heap.size]) (w.alloc (.cells #[.int .i64 kd, .int .i64 n, .int .i64 k] 36)).drew, ∀ j v, (#[Value.int .i64 kd, .int .i64 n, .int .i64 k] : Array Value)[j]? = some v → e.val.cell? ⟨w.heap.size, j, none⟩ = some v) := fun e j v hj =>
    (cell_of_block (e.property.2 w.heap.size (by simp)) _).trans (by rw [show (w.alloc (.cells #[.int .i64 kd, .int .i64 n, .int .i64 k] 36)).drew.cell? ⟨w.heap.size, j, none⟩ = _ from cell_of_row _ _ _ _ _ _ (heap_alloc_new w _)]; exact hj)
  have e1 : ∀ e : ExtK (keepBlocks [w.heap.size]) (w.alloc (.cells #[.int .i64 kd, .int .i64 n, .int .i64 k] 36)).drew, e.val.cell? ⟨w.heap.size, 1, none⟩ = some (.int .i64 n) := fun e => HCE.out e 1 _ rfl
  have e2 : ∀ e : ExtK (keepBlocks [w.heap.size]) (w.alloc (.cells #[.int .i64 kd, .int .i64 n, .int .i64 k] 36)).drew, e.val.cell? ⟨w.heap.size, 2, none⟩ = some (.int .i64 k) := fun e => HCE.out e 2 _ rfl
  have hlt0 : w.heap.size < (w.alloc (.cells #[.int .i64 kd, .int .i64 n, .int .i64 k] 36)).heap.size := by simp
  clear HCE
  generalize w.alloc (.cells #[.int .i64 kd, .int .i64 n, .int .i64 k] 36) = w0 at *
  refine wp_region_held_lit (keepBlocks [w.heap.size]) [(0, true), (1, true), (3, true), (4, true), (2, false), (5, false), (6, false), (7, true)] (by kernel_rfl) (by kernel_rfl) (fun _ _ d _ _ h => by cases d <;> exact h) ?_
  simp only [picked, List.map_cons, List.map_nil, List.getElem?_cons_succ, List.getElem?_cons_zero, Option.getD_some]
  repeat (refine wpH_quiet (by rfl) (fun K hK => ?_); go_big_quiet_op; refine hK _ ?_; clear hK K)
  clear e1 e2
  refine wpH_one (by rfl) (fun K hK => ?_)
  go_simp
  refine (GR.out _).mono ?_
  rintro e w' ⟨rfl, rfl⟩
  refine hK _ _ ((keepBlocks [w.heap.size]).refl _) ?_
  clear hK K
  refine wpH_one (by rfl) (fun K hK => ?_)
  go_simp
  refine (GB.out _).mono ?_
  rintro e w1 ⟨rfl, hb1⟩
  have HB1 : Hid (Below w.heap.size w w1) := HB0.out.drew.trans (hb1.mono HB0.out.size)
  refine hK _ _ (keep_one hb1.size (hb1.block _ hlt0)) ?_
  have hlt1 : w.heap.size < w1.heap.size := Nat.lt_of_lt_of_le hlt0 hb1.size
  clear hK K hb1
  obtain ⟨cap, w2, hcv, hat, hb2, hcap, hnew⟩ := GC.out w1
  have HNW := Lib.hid hnew
  clear hnew
  refine wpH_one (by rfl) (fun K hK => ?_)
  go_simp
  refine hK _ _ (keep_one hb2.size (hb2.block _ hlt1)) ?_
  clear hK K hcv
  repeat (refine wpH_quiet (by rfl) (fun K hK => ?_); go_big_quiet_op; refine hK _ ?_; clear hK K)
  refine wpH_nil ?_
  have HAT := Lib.hid hat; have HB2 : Hid (Below w.heap.size w w2) := HB1.out.trans (hb2.mono HB1.out.size)
  clear hat hb2
  go_wp2
  go_ret
  exact ⟨⟨_, _, rfl, HAT.out, HB1.out.size, HNW.out⟩, HB2.out⟩
end Go.Proofs.Ytahfkcfbmklfpaa

/- What the statements' own 'done' answers: the book behind a step that was done. Condition: no more than 2^20 records. -/
namespace Go.Proofs.Ytahfkcfbmklfpaa
open Go.RowKit Go.Deep

theorem heap_set_row {w : World} {g : Nat} {cs : Array Value} {t : TypeId} (h : w.heap[g]? = some (.cells cs t (0, 0))) (j : Nat) (v : Value) : (w.setCell ⟨g, j, none⟩ v).heap[g]? = some (.cells (cs.setIfInBounds j v) t (0, 0)) := by
  simp [World.setCell, Array.getElem?_modify, h]
/-- A record of two, written over. -/
theorem two_put {w : World} {g : Nat} {a b : Value} {t : TypeId} (h : w.heap[g]? = some (.cells #[a, b] t (0, 0))) (v0 v1 : Value) :
    w.cell? ⟨g, 0, none⟩ = some a ∧ w.frozen? ⟨g, 0, none⟩ = false ∧ w.cell? ⟨g, 1, none⟩ = some b ∧ w.frozen? ⟨g, 1, none⟩ = false ∧ (w.setCell ⟨g, 0, none⟩ v0).cell? ⟨g, 1, none⟩ = some b ∧ (w.setCell ⟨g, 0, none⟩ v0).frozen? ⟨g, 1, none⟩ = false ∧
      ((w.setCell ⟨g, 0, none⟩ v0).setCell ⟨g, 1, none⟩ v1).heap[g]? = some (.cells #[v0, v1] t (0, 0)) := by
  have h1 : (w.setCell ⟨g, 0, none⟩ v0).heap[g]? = some (.cells #[v0, b] t (0, 0)) := heap_set_row h 0 v0
  refine ⟨by rw [cell_of_row _ _ _ _ _ _ h]; rfl, frozen_of_row w g 0 _ t h, by rw [cell_of_row _ _ _ _ _ _ h]; rfl, frozen_of_row w g 1 _ t h, by rw [cell_of_row _ _ _ _ _ _ h1]; rfl, frozen_of_row _ g 1 _ t h1, ?_⟩
  exact heap_set_row h1 1 v1

set_option maxHeartbeats 1000000 in
set_option maxRecDepth 100000 in
theorem done_reset {w : World} (bA : Option Addr) (nb bc : Nat) (lA : Option Addr) (nl lc : Nat) (m x : Int) (D : List Nat) (hD : dataL m x = D) :
    Calls Try.prog 13 #[.agg #[.slice bA nb bc, .slice lA nl lc], .agg #[.int .i64 2, .int .i64 m, .int .i64 x]] w fun e w' => (∃ a c, e = .returned (.agg #[.slice (some ⟨a, 0, none⟩) D.length c, .slice none 0 0]) ∧ BytesAt w' (some ⟨a, 0, none⟩) D ∧ w.heap.size ≤ a ∧ a < w'.heap.size) ∧ Below w.heap.size w w' := by
  have GDA := Lib.hid (fun w => data_new 2 m x w)
  rw [hD] at GDA
  clear hD
  go_enter Try.func13, Try.ntmps13
  go_wp2_with fail
  have HB0 : Hid (Below w.heap.size w (((w.alloc (.cells #[.slice bA nb bc, .slice lA nl lc] 34)).alloc (.cells #[.int .i64 2, .int .i64 m, .int .i64 x] 36)).alloc (.cells #[.slice none 0 0, .slice none 0 0] 34))) := balloc (balloc (balloc (Below.refl _ _) _) _) _
  have HZ : Hid ((((w.alloc (.cells #[.slice bA nb bc, .slice lA nl lc] 34)).alloc (.cells #[.int .i64 2, .int .i64 m, .int .i64 x] 36)).alloc (.cells #[.slice none 0 0, .slice none 0 0] 34)).heap[w.heap.size + 1 + 1]? = some (.cells #[.slice none 0 0, .slice none 0 0] 34 (0, 0))) := by
    have h := heap_alloc_new ((w.alloc (.cells #[.slice bA nb bc, .slice lA nl lc] 34)).alloc (.cells #[.int .i64 2, .int .i64 m, .int .i64 x] 36)) (.cells #[.slice none 0 0, .slice none 0 0] 34)
    show _ = _
    simpa using h
  have HL : Hid (w.heap.size + 1 + 1 < (((w.alloc (.cells #[.slice bA nb bc, .slice lA nl lc] 34)).alloc (.cells #[.int .i64 2, .int .i64 m, .int .i64 x] 36)).alloc (.cells #[.slice none 0 0, .slice none 0 0] 34)).heap.size) := by show _ < _; simp
  generalize ((w.alloc (.cells #[.slice bA nb bc, .slice lA nl lc] 34)).alloc (.cells #[.int .i64 2, .int .i64 m, .int .i64 x] 36)).alloc (.cells #[.slice none 0 0, .slice none 0 0] 34) = w0 at *
  refine (GDA.out w0).mono ?_
  rintro e w1 ⟨⟨da, dc, rfl, hdat, hda, hdl⟩, hb1⟩
  have HB1 : Hid (Below w.heap.size w w1) := HB0.out.trans (hb1.mono HB0.out.size)
  have HDA : Hid (BytesAt w1 (some ⟨da, 0, none⟩) D ∧ w0.heap.size ≤ da) := ⟨hdat, hda⟩
  obtain ⟨c0, f0, c1, f1, c2, f2, hh⟩ := two_put ((hb1.block _ HL.out).trans HZ.out) (.slice (some ⟨da, 0, none⟩) D.length dc) (.slice none 0 0)
  have HH := Lib.hid hh
  have HBE : Hid (Below w.heap.size w ((w1.setCell ⟨w.heap.size + 1 + 1, 0, none⟩ (.slice (some ⟨da, 0, none⟩) D.length dc)).setCell ⟨w.heap.size + 1 + 1, 1, none⟩ (.slice none 0 0))) := (HB1.out.setCell (p := ⟨w.heap.size + 1 + 1, 0, none⟩) (by show _ ≤ w.heap.size + 1 + 1; omega) _).setCell (p := ⟨w.heap.size + 1 + 1, 1, none⟩) (by show _ ≤ w.heap.size + 1 + 1; omega) _
  have HDE : Hid (BytesAt ((w1.setCell ⟨w.heap.size + 1 + 1, 0, none⟩ (.slice (some ⟨da, 0, none⟩) D.length dc)).setCell ⟨w.heap.size + 1 + 1, 1, none⟩ (.slice none 0 0)) (some ⟨da, 0, none⟩) D) := bytes_kept HDA.out.1 (by simp [World.setCell]) (fun a ha _ => by
    injection ha with ha
    subst ha
    have h1 := HDA.out.2
    have h2 := HL.out
    rw [Below.heap_setCell _ _ _ _ (show da ≠ w.heap.size + 1 + 1 by omega), Below.heap_setCell _ _ _ _ (show da ≠ w.heap.size + 1 + 1 by omega)])
  have HDL : Hid (da < ((w1.setCell ⟨w.heap.size + 1 + 1, 0, none⟩ (.slice (some ⟨da, 0, none⟩) D.length dc)).setCell ⟨w.heap.size + 1 + 1, 1, none⟩ (.slice none 0 0)).heap.size) := by
    show _ < _
    simpa [World.setCell] using hdl
  clear hdat hda hb1 hh hdl
  go_wp2_with fail
  refine bodyPost_ret (results_cell_row rfl _ _ (w.heap.size + 1 + 1) 34 #[.slice (some ⟨da, 0, none⟩) D.length dc, .slice none 0 0] (0, 0) _ rfl HH.out Try.underlying34 rfl (by kernel_rfl)) rfl ?_
  exact ⟨⟨_, _, rfl, HDE.out, Nat.le_trans HB0.out.size HDA.out.2, HDL.out⟩, HBE.out⟩
theorem Off.below_at {O : Nat → Prop} {B : Nat} {W w w' : World} (h : Off O w w') (hb : Below B W w) (hO : ∀ x, O x → B ≤ x) (hB : B ≤ w.heap.size := by omega) : Below B W w' :=
  hb.trans ⟨h.os, h.tape, h.output, h.size, fun k hk => h.block k (by omega) fun ho => by have := hO k ho; omega⟩

set_option maxHeartbeats 2000000 in
set_option maxRecDepth 100000 in
theorem done_append {P : Nat → Prop} {w : World} (bA : Option Addr) (nb bc : Nat) (lA : Option Addr) (ls : List (List Nat)) (lc : Nat) (h : RowsL P w lA lc ls) (hN : ∀ k, w.heap.size ≤ k → P k) (hl : ls.length ≤ 1000000) (m x : Int) (D : List Nat) (hD : dataL m x = D) :
    Calls Try.prog 13 #[.agg #[.slice bA nb bc, .slice lA ls.length lc], .agg #[.int .i64 1, .int .i64 m, .int .i64 x]] w fun e w' => (∃ A c, e = .returned (.agg #[.slice bA nb bc, .slice A (ls.length + 1) c]) ∧ RowsL P w' A c (ls ++ [D])) ∧ Below w.heap.size w w' := by
  have GDA := Lib.hid (fun w => data_new 1 m x w)
  rw [hD] at GDA
  have HR := Lib.hid h; have HN := Lib.hid hN; have HLL := Lib.hid hl
  clear hD h hN hl
  go_enter Try.func13, Try.ntmps13
  go_wp2_with fail
  have HB0 : Hid (Below w.heap.size w (((w.alloc (.cells #[.slice bA nb bc, .slice lA ls.length lc] 34)).alloc (.cells #[.int .i64 1, .int .i64 m, .int .i64 x] 36)).alloc (.cells #[.slice none 0 0, .slice none 0 0] 34))) := balloc (balloc (balloc (Below.refl _ _) _) _) _
  have HZ : Hid ((((w.alloc (.cells #[.slice bA nb bc, .slice lA ls.length lc] 34)).alloc (.cells #[.int .i64 1, .int .i64 m, .int .i64 x] 36)).alloc (.cells #[.slice none 0 0, .slice none 0 0] 34)).heap[w.heap.size + 1 + 1]? = some (.cells #[.slice none 0 0, .slice none 0 0] 34 (0, 0))) := by
    have h := heap_alloc_new ((w.alloc (.cells #[.slice bA nb bc, .slice lA ls.length lc] 34)).alloc (.cells #[.int .i64 1, .int .i64 m, .int .i64 x] 36)) (.cells #[.slice none 0 0, .slice none 0 0] 34)
    show _ = _
    simpa using h
  have HX : Hid ((((w.alloc (.cells #[.slice bA nb bc, .slice lA ls.length lc] 34)).alloc (.cells #[.int .i64 1, .int .i64 m, .int .i64 x] 36)).alloc (.cells #[.slice none 0 0, .slice none 0 0] 34)).heap[w.heap.size + 1]? = some (.cells #[.int .i64 1, .int .i64 m, .int .i64 x] 36 (0, 0))) := by
    have h := heap_alloc_new (w.alloc (.cells #[.slice bA nb bc, .slice lA ls.length lc] 34)) (.cells #[.int .i64 1, .int .i64 m, .int .i64 x] 36)
    have h2 := ((Below.refl ((w.alloc (.cells #[.slice bA nb bc, .slice lA ls.length lc] 34)).alloc (.cells #[.int .i64 1, .int .i64 m, .int .i64 x] 36)).heap.size _).alloc (Nat.le_refl _) (.cells #[.slice none 0 0, .slice none 0 0] 34)).block (w.heap.size + 1) (by simp)
    show _ = _
    rw [h2]
    simpa using h
  have HY : Hid ((((w.alloc (.cells #[.slice bA nb bc, .slice lA ls.length lc] 34)).alloc (.cells #[.int .i64 1, .int .i64 m, .int .i64 x] 36)).alloc (.cells #[.slice none 0 0, .slice none 0 0] 34)).heap[w.heap.size]? = some (.cells #[.slice bA nb bc, .slice lA ls.length lc] 34 (0, 0))) := by
    have h := heap_alloc_new w (.cells #[.slice bA nb bc, .slice lA ls.length lc] 34)
    have h2 := (balloc (balloc (Below.refl (w.alloc (.cells #[.slice bA nb bc, .slice lA ls.length lc] 34)).heap.size _) (.cells #[.int .i64 1, .int .i64 m, .int .i64 x] 36)) (.cells #[.slice none 0 0, .slice none 0 0] 34)).block w.heap.size (by simp)
    exact h2.trans h
  have HL : Hid (w.heap.size + 1 + 1 < (((w.alloc (.cells #[.slice bA nb bc, .slice lA ls.length lc] 34)).alloc (.cells #[.int .i64 1, .int .i64 m, .int .i64 x] 36)).alloc (.cells #[.slice none 0 0, .slice none 0 0] 34)).heap.size) := by show _ < _; simp
  generalize ((w.alloc (.cells #[.slice bA nb bc, .slice lA ls.length lc] 34)).alloc (.cells #[.int .i64 1, .int .i64 m, .int .i64 x] 36)).alloc (.cells #[.slice none 0 0, .slice none 0 0] 34) = w0 at *
  have e0 : ∀ e : ExtK (keepBlocks [w.heap.size, w.heap.size + 1]) w0.drew, e.val.cell? ⟨w.heap.size, 0, none⟩ = some (.slice bA nb bc) := fun e => (cell_of_block (e.property.2 w.heap.size (by simp)) _).trans ((cell_of_row _ _ _ _ _ _ HY.out).trans rfl)
  have e1 : ∀ e : ExtK (keepBlocks [w.heap.size, w.heap.size + 1]) w0.drew, e.val.cell? ⟨w.heap.size, 1, none⟩ = some (.slice lA ls.length lc) := fun e => (cell_of_block (e.property.2 w.heap.size (by simp)) _).trans ((cell_of_row _ _ _ _ _ _ HY.out).trans rfl)
  have d0 : ∀ e : ExtK (keepBlocks [w.heap.size, w.heap.size + 1]) w0.drew, e.val.cell? ⟨w.heap.size + 1, 0, none⟩ = some (.int .i64 1) := fun e => (cell_of_block (e.property.2 (w.heap.size + 1) (by simp)) _).trans ((cell_of_row _ _ _ _ _ _ HX.out).trans rfl)
  have d1 : ∀ e : ExtK (keepBlocks [w.heap.size, w.heap.size + 1]) w0.drew, e.val.cell? ⟨w.heap.size + 1, 1, none⟩ = some (.int .i64 m) := fun e => (cell_of_block (e.property.2 (w.heap.size + 1) (by simp)) _).trans ((cell_of_row _ _ _ _ _ _ HX.out).trans rfl)
  have d2 : ∀ e : ExtK (keepBlocks [w.heap.size, w.heap.size + 1]) w0.drew, e.val.cell? ⟨w.heap.size + 1, 2, none⟩ = some (.int .i64 x) := fun e => (cell_of_block (e.property.2 (w.heap.size + 1) (by simp)) _).trans ((cell_of_row _ _ _ _ _ _ HX.out).trans rfl)
  have HR0 : Hid (RowsL (fun k => P k ∧ k ≠ w.heap.size + 1 + 1) w0.drew lA lc ls) := HR.out.kept HB0.out.size (fun k _ hk => HB0.out.block k hk) (fun k hk hlt => ⟨hk, by omega⟩)
  have HN0 : Hid (∀ k, w0.heap.size ≤ k → P k) := fun k hk => HN.out k (Nat.le_trans HB0.out.size hk)
  refine wp_region_held_lit (keepBlocks [w.heap.size, w.heap.size + 1]) [(0, true), (1, true), (3, true), (4, true), (6, true), (2, false), (5, false), (7, false), (8, false), (9, false), (10, false), (11, false)] (by kernel_rfl) (by kernel_rfl) (fun _ _ d _ _ h => by cases d <;> exact h) ?_
  simp only [picked, List.map_cons, List.map_nil, List.getElem?_cons_succ, List.getElem?_cons_zero, Option.getD_some]
  repeat (refine wpH_quiet (by rfl) (fun K hK => ?_); go_big_quiet_op; refine hK _ ?_; clear hK K)
  clear e0 e1 d0 d1 d2
  refine wpH_one (by rfl) (fun K hK => ?_)
  go_simp
  have KK : Hid (∀ wa wb : World, Below w0.heap.size w0.drew wa → Below w0.heap.size w0.drew wb → wa.heap.size ≤ wb.heap.size → (keepBlocks [w.heap.size, w.heap.size + 1]).r wa wb) := fun wa wb ha hb hs => by
    have hl := HL.out
    exact keep_two hs ((hb.block w.heap.size (by omega)).trans (ha.block w.heap.size (by omega)).symm) ((hb.block (w.heap.size + 1) (by omega)).trans (ha.block (w.heap.size + 1) (by omega)).symm)
  have BA : Hid (Below w0.heap.size w0.drew (w0.alloc (.cells #[] 31)).drew) := by
    show Below w0.heap.size w0.drew (w0.drew.alloc (.cells #[] 31))
    exact Below.alloc (B := w0.heap.size) (a := w0.drew) (Below.refl w0.heap.size w0.drew) (show w0.heap.size ≤ w0.drew.heap.size from Nat.le_refl _) _
  refine hK _ _ (KK.out _ _ (Below.refl _ _) BA.out (by simp)) ?_
  clear hK K
  refine wpH_one (by rfl) (fun K hK => ?_)
  refine wp_rows_copy (.tmp 11) (.tmp 13) rfl lA lc ls HR0.out (by have := HLL.out; omega) (fun k hk => ⟨HN0.out k hk, by have hl := HL.out; have hk' : w0.heap.size ≤ k := hk; omega⟩) ls.length rfl rfl rfl ?_
  intro A1 c1 w1 hr1 hb1 hs1 ha1
  have HAL1 : Hid (∀ y, A1 = some y → w0.heap.size ≤ y.block) := ha1
  have BB1 : Hid (Below w0.heap.size w0.drew w1) := hb1
  have HR1 := Lib.hid hr1
  refine hK _ _ (KK.out (w0.alloc (.cells #[] 31)).drew w1 BA.out hb1 (by simp; exact hs1)) ?_
  clear hK K hr1 hb1 hs1 ha1
  refine wpH_one (by rfl) (fun K hK => ?_)
  go_simp
  refine (GDA.out w1).mono ?_
  rintro e w2 ⟨⟨da, dc, rfl, hdat, hda, hdl⟩, hb2⟩
  have BB2 : Hid (Below w0.heap.size w0.drew w2) := BB1.out.trans (hb2.mono BB1.out.size)
  have HR2 := Lib.hid (HR1.out.below hb2)
  have HDT := Lib.hid hdat
  have HNA : Hid (∀ a : Addr, some (⟨da, 0, none⟩ : Addr) = some a → (P a.block ∧ a.block ≠ w.heap.size + 1 + 1) ∧ a.block < w2.heap.size ∧ ∀ y, A1 = some y → a.block ≠ y.block) := fun a ha => by
    injection ha with ha
    subst ha
    have hw1 : w0.heap.size ≤ w1.heap.size := BB1.out.size
    have hl := HL.out
    refine ⟨⟨HN0.out _ (Nat.le_trans BB1.out.size hda), by show da ≠ _; omega⟩, hdl, fun y hy => ?_⟩
    obtain ⟨L, _, _, h3, _⟩ := HR1.out
    have := (h3 y hy).2
    show da ≠ y.block
    omega
  refine hK _ _ (KK.out _ _ BB1.out BB2.out hb2.size) ?_
  clear hK K hdat hda hdl hb2
  refine wpH_one (by rfl) (fun K hK => ?_)
  go_simp
  refine hK _ _ (KK.out _ _ BB2.out (BB2.out.alloc BB2.out.size _) (by simp)) ?_
  clear hK K
  refine wpH_one (by rfl) (fun K hK => ?_)
  refine wp_rows_push (.tmp 14) (.tmp 17) rfl A1 c1 ls HR2.out (by have := HLL.out; omega) (some ⟨da, 0, none⟩) D dc HDT.out HNA.out (fun k hk => ⟨HN0.out _ (Nat.le_trans BB2.out.size hk), by have hl := HL.out; have hw2 : w0.heap.size ≤ w2.heap.size := BB2.out.size; omega⟩) ls.length rfl rfl rfl ?_
  intro A3 c3 w3 hr3 ho3 _
  have HA1 : Hid (∀ y, A1 = some y → w0.heap.size ≤ y.block) := HAL1.out
  have BB3 : Hid (Below w0.heap.size w0.drew w3) := Off.below_at ho3.1 BB2.out (fun k ⟨y, hy, e⟩ => by rw [e]; exact HA1.out y hy) BB2.out.size
  have HR3 := Lib.hid hr3
  refine hK _ _ (KK.out (w2.alloc (.cells #[.slice (some ⟨da, 0, none⟩) D.length dc] 31)) w3 (BB2.out.alloc BB2.out.size _) BB3.out (by simp; exact ho3.2)) ?_
  clear hK K hr3 ho3
  refine wpH_one (by rfl) (fun K hK => ?_)
  go_simp
  refine hK _ _ ((keepBlocks [w.heap.size, w.heap.size + 1]).refl _) ?_
  clear hK K
  obtain ⟨c0, f0, c1', f1, c2, f2, hh⟩ := two_put ((BB3.out.block _ HL.out).trans HZ.out) (.slice bA nb bc) (.slice A3 (ls.length + 1) c3)
  have HH := Lib.hid hh
  have HBE : Hid (Below w.heap.size w ((w3.setCell ⟨w.heap.size + 1 + 1, 0, none⟩ (.slice bA nb bc)).setCell ⟨w.heap.size + 1 + 1, 1, none⟩ (.slice A3 (ls.length + 1) c3))) := ((HB0.out.drew.trans (BB3.out.mono HB0.out.size)).setCell (p := ⟨w.heap.size + 1 + 1, 0, none⟩) (by show _ ≤ w.heap.size + 1 + 1; omega) _).setCell (p := ⟨w.heap.size + 1 + 1, 1, none⟩) (by show _ ≤ w.heap.size + 1 + 1; omega) _
  have HRE : Hid (RowsL P ((w3.setCell ⟨w.heap.size + 1 + 1, 0, none⟩ (.slice bA nb bc)).setCell ⟨w.heap.size + 1 + 1, 1, none⟩ (.slice A3 (ls.length + 1) c3)) A3 c3 (ls ++ [D])) := HR3.out.kept (by simp [World.setCell]) (fun k hk _ => by
    rw [Below.heap_setCell _ _ _ _ (show k ≠ w.heap.size + 1 + 1 from hk.2), Below.heap_setCell _ _ _ _ (show k ≠ w.heap.size + 1 + 1 from hk.2)]) (fun k hk _ => hk.1)
  refine wpH_one (by rfl) (fun K hK => ?_)
  go_simp
  refine hK _ _ (keep_two (by simp [World.setCell]) (by
    rw [Below.heap_setCell _ _ _ _ (show w.heap.size ≠ w.heap.size + 1 + 1 by omega), Below.heap_setCell _ _ _ _ (show w.heap.size ≠ w.heap.size + 1 + 1 by omega)]) (by
    rw [Below.heap_setCell _ _ _ _ (show w.heap.size + 1 ≠ w.heap.size + 1 + 1 by omega), Below.heap_setCell _ _ _ _ (show w.heap.size + 1 ≠ w.heap.size + 1 + 1 by omega)])) ?_
  clear hK K hh
  refine wpH_nil ?_
  go_wp2_with fail
  refine bodyPost_ret (results_cell_row rfl _ _ (w.heap.size + 1 + 1) 34 #[.slice bA nb bc, .slice A3 (ls.length + 1) c3] (0, 0) _ rfl HH.out Try.underlying34 rfl (by kernel_rfl)) rfl ?_
  exact ⟨⟨_, _, rfl, HRE.out⟩, HBE.out⟩
end Go.Proofs.Ytahfkcfbmklfpaa

/- What the statements' own 'does' answers: Append, or Reset, of a step's bytes: done, or no room, and nothing changed. Condition: fewer than 2^38 acts and turns. -/
namespace Go.Proofs.Ytahfkcfbmklfpaa
open Go.RowKit Go.Deep

set_option maxHeartbeats 600000 in
set_option maxRecDepth 100000 in
theorem does_append {J : Nat → Prop} {gj g n k N : Nat} {r : RollV} {w : World} (h : Jo J gj g n k r w) (hk : k ≤ 274877906944) (hap : ∀ y, J y → N ≤ y ∧ y < w.heap.size) (hN : N ≤ w.heap.size) (m x : Int) (D : List Nat) (hD : dataL m x = D) :
    Calls Try.prog 11 #[.pointer (some ⟨gj, 0, none⟩), .agg #[.int .i64 1, .int .i64 m, .int .i64 x]] w fun e w' => Below N w w' ∧ Off J w w' ∧ ∃ J2 : Nat → Prop, (∀ y, J2 y → N ≤ y ∧ y < w'.heap.size) ∧ (∀ y, J2 y → J y ∨ w.heap.size ≤ y) ∧
      ((64 * (n / 2) < r.bytes.length + flen D.length ∧ e = .returned (.int .i64 4) ∧ Jo J2 gj g n k r w') ∨ (r.bytes.length + flen D.length ≤ 64 * (n / 2) ∧ e = .returned (.int .i64 0) ∧ Jo J2 gj g n (k + 100000) ⟨r.turn, r.base, r.recs ++ [D]⟩ w')) := by
  have HJO := Lib.hid h; have HAP := Lib.hid hap; have HN := Lib.hid hN
  have GDA := Lib.hid (fun w => data_any 1 m x w)
  have hdl := dataL_length m x
  have HDB := Lib.hid (dataL_lt m x)
  rw [hD] at GDA hdl HDB
  obtain ⟨hdl1, hdl2⟩ := hdl
  have hdl : D.length ≤ 60000 := by omega
  have HDL := Lib.hid hdl
  clear hdl1 hdl2 hdl
  have HB0 : Hid (Below w.heap.size w (w.alloc (.cells #[.int .i64 1, .int .i64 m, .int .i64 x] 36))) := (Below.refl _ _).alloc (Nat.le_refl _) _
  clear h hap hN hD
  go_enter Try.func11, Try.ntmps11
  go_wp2_with fail
  generalize w.alloc (.cells #[.int .i64 1, .int .i64 m, .int .i64 x] 36) = w1 at *
  refine (GDA.out w1).mono ?_
  rintro e w2 ⟨⟨da, dc, rfl, hdat, hda⟩, hb2⟩
  have HB2 : Hid (Below w.heap.size w w2) := HB0.out.trans (hb2.mono HB0.out.size)
  have HJO2 := Lib.hid (HJO.out.below HB2.out)
  have HAP2 : Hid (∀ y, J y → N ≤ y ∧ y < w2.heap.size) := fun y hy => ⟨(HAP.out y hy).1, Nat.lt_of_lt_of_le (HAP.out y hy).2 HB2.out.size⟩
  have HNJ : Hid (∀ a : Addr, some (⟨da, 0, none⟩ : Addr) = some a → ¬J a.block) := fun a ha h => by
    injection ha with ha
    subst ha
    exact Nat.lt_irrefl _ (Nat.lt_of_lt_of_le (HAP.out _ h).2 (Nat.le_trans HB0.out.size hda))
  have GAP := Lib.hid (append_any HJO2.out hk (some ⟨da, 0, none⟩) D dc HDL.out HDB.out hdat HNJ.out)
  clear hdat hda hb2
  go_wp2_with fail
  refine GAP.out.mono ?_
  rintro e w3 (⟨hbad, rfl, hb3⟩ | ⟨hok, rfl, J3', hJ3', hjo3', hoff3⟩)
  · have HJO3 := Lib.hid (HJO2.out.below hb3)
    have HB3 : Hid (Below N w w3) := (HB2.out.trans (hb3.mono HB2.out.size)).mono HN.out
    have HAP3 : Hid (∀ y, J y → N ≤ y ∧ y < w3.heap.size) := fun y hy => ⟨(HAP2.out y hy).1, Nat.lt_of_lt_of_le (HAP2.out y hy).2 hb3.size⟩
    have HBAD := Lib.hid hbad
    have HO3 : Hid (Off J w w3) := Off.of_below (HB2.out.trans (hb3.mono HB2.out.size))
    clear hb3 hbad
    go_wp2
    go_ret
    exact ⟨HB3.out, HO3.out, J, HAP3.out, fun _ h => .inl h, .inl ⟨HBAD.out, rfl, HJO3.out⟩⟩
  · obtain ⟨J3, hjo3, hap3, hnj3, hb3⟩ := hjo3'.tidy hJ3' hoff3 HAP2.out (Nat.le_trans HN.out HB2.out.size)
    have HJO3 := Lib.hid hjo3; have HAP3 := Lib.hid hap3; have HOK := Lib.hid hok
    have HB3 : Hid (Below N w w3) := (HB2.out.mono HN.out).trans hb3
    have HO3 : Hid (Off J w w3) := (Off.of_below HB2.out).trans hoff3 (fun x hx => .inl hx)
    have HNJ3 : Hid (∀ y, J3 y → J y ∨ w.heap.size ≤ y) := fun y hy => (hnj3 y hy).imp id fun h => Nat.le_trans HB2.out.size h
    clear hjo3' hJ3' hoff3 hjo3 hap3 hb3 hnj3 hok
    go_wp2
    go_ret
    exact ⟨HB3.out, HO3.out, J3, HAP3.out, HNJ3.out, .inr ⟨HOK.out, rfl, HJO3.out⟩⟩

set_option maxHeartbeats 600000 in
set_option maxRecDepth 100000 in
theorem does_reset {J : Nat → Prop} {gj g n k N : Nat} {r : RollV} {w : World} (h : Jo J gj g n k r w) (hk : k ≤ 274877906944) (hap : ∀ y, J y → N ≤ y ∧ y < w.heap.size) (hN : N ≤ w.heap.size) (m x : Int) (D : List Nat) (hD : dataL m x = D) :
    Calls Try.prog 11 #[.pointer (some ⟨gj, 0, none⟩), .agg #[.int .i64 2, .int .i64 m, .int .i64 x]] w fun e w' => Below N w w' ∧ Off J w w' ∧ ∃ J2 : Nat → Prop, (∀ y, J2 y → N ≤ y ∧ y < w'.heap.size) ∧ (∀ y, J2 y → J y ∨ w.heap.size ≤ y) ∧
      ((e = .returned (.int .i64 4) ∧ Jo J2 gj g n k r w') ∨ (e = .returned (.int .i64 0) ∧ Jo J2 gj g n (k + 200000) ⟨r.turn + 1, D, []⟩ w')) := by
  have HJO := Lib.hid h; have HAP := Lib.hid hap; have HN := Lib.hid hN
  have GDA := Lib.hid (fun w => data_any 2 m x w)
  have hdl := dataL_length m x
  have HDB := Lib.hid (dataL_lt m x)
  rw [hD] at GDA hdl HDB
  obtain ⟨hdl1, hdl2⟩ := hdl
  have hdl : D.length ≤ 60000 := by omega
  have HDL := Lib.hid hdl
  clear hdl1 hdl2 hdl
  have HB0 : Hid (Below w.heap.size w (w.alloc (.cells #[.int .i64 2, .int .i64 m, .int .i64 x] 36))) := (Below.refl _ _).alloc (Nat.le_refl _) _
  clear h hap hN hD
  go_enter Try.func11, Try.ntmps11
  go_wp2_with fail
  generalize w.alloc (.cells #[.int .i64 2, .int .i64 m, .int .i64 x] 36) = w1 at *
  refine (GDA.out w1).mono ?_
  rintro e w2 ⟨⟨da, dc, rfl, hdat, hda⟩, hb2⟩
  have HB2 : Hid (Below w.heap.size w w2) := HB0.out.trans (hb2.mono HB0.out.size)
  have HJO2 := Lib.hid (HJO.out.below HB2.out)
  have HAP2 : Hid (∀ y, J y → N ≤ y ∧ y < w2.heap.size) := fun y hy => ⟨(HAP.out y hy).1, Nat.lt_of_lt_of_le (HAP.out y hy).2 HB2.out.size⟩
  have GAP := Lib.hid (reset_any HJO2.out hk (some ⟨da, 0, none⟩) D dc HDL.out HDB.out hdat)
  clear hdat hda hb2
  go_wp2_with fail
  refine GAP.out.mono ?_
  rintro e w3 (⟨_, rfl, hjo3, hoff3⟩ | ⟨_, rfl, J3', hJ3', hjo3', hoff3⟩)
  · obtain ⟨J3, hjo3, hap3, hnj3, hb3⟩ := hjo3.tidy (fun x hx => .inl hx) hoff3 HAP2.out (Nat.le_trans HN.out HB2.out.size)
    have HJO3 := Lib.hid hjo3; have HAP3 := Lib.hid hap3
    have HB3 : Hid (Below N w w3) := (HB2.out.mono HN.out).trans hb3
    have HO3 : Hid (Off J w w3) := (Off.of_below HB2.out).trans hoff3 (fun x hx => .inl hx)
    have HNJ3 : Hid (∀ y, J3 y → J y ∨ w.heap.size ≤ y) := fun y hy => (hnj3 y hy).imp id fun h => Nat.le_trans HB2.out.size h
    clear hoff3 hjo3 hap3 hb3 hnj3
    go_wp2
    go_ret
    exact ⟨HB3.out, HO3.out, J3, HAP3.out, HNJ3.out, .inl ⟨rfl, HJO3.out⟩⟩
  · obtain ⟨J3, hjo3, hap3, hnj3, hb3⟩ := hjo3'.tidy hJ3' hoff3 HAP2.out (Nat.le_trans HN.out HB2.out.size)
    have HJO3 := Lib.hid hjo3; have HAP3 := Lib.hid hap3
    have HB3 : Hid (Below N w w3) := (HB2.out.mono HN.out).trans hb3
    have HO3 : Hid (Off J w w3) := (Off.of_below HB2.out).trans hoff3 (fun x hx => .inl hx)
    have HNJ3 : Hid (∀ y, J3 y → J y ∨ w.heap.size ≤ y) := fun y hy => (hnj3 y hy).imp id fun h => Nat.le_trans HB2.out.size h
    clear hjo3' hJ3' hoff3 hjo3 hap3 hb3 hnj3
    go_wp2
    go_ret
    exact ⟨HB3.out, HO3.out, J3, HAP3.out, HNJ3.out, .inr ⟨rfl, HJO3.out⟩⟩
end Go.Proofs.Ytahfkcfbmklfpaa

/- The law JournalPlays: whatever is appended, and begun anew: each call answers, base and records are shown, and what was refused for want of room changes nothing; opened again it is the same. No condition beyond the arguments' own bounds. -/
namespace Go.Proofs.Ytahfkcfbmklfpaa
open Go.RowKit Go.Deep

/-- The statement's own book, in block B: base and records of r, none of it in the blocks J. -/
def BookAt (N B : Nat) (J : Nat → Prop) (bA : Option Addr) (bc : Nat) (lA : Option Addr) (lc : Nat) (r : RollV) (w : World) : Prop :=
  ¬J B ∧ N ≤ B ∧ B < w.heap.size ∧ w.heap[B]? = some (.cells #[.slice bA r.base.length bc, .slice lA r.recs.length lc] 34 (0, 0)) ∧ BytesAt w bA r.base ∧ (∀ a, bA = some a → ¬J a.block ∧ a.block ≠ B ∧ a.block < w.heap.size) ∧ RowsL (fun y => N ≤ y ∧ y ≠ B ∧ ¬J y) w lA lc r.recs
theorem BookAt.off {N B : Nat} {J J2 : Nat → Prop} {bA : Option Addr} {bc : Nat} {lA : Option Addr} {lc : Nat} {r : RollV} {w w' : World} (h : BookAt N B J bA bc lA lc r w) (ho : Off J w w') (hJ : ∀ y, J2 y → J y ∨ w.heap.size ≤ y) : BookAt N B J2 bA bc lA lc r w' := by
  obtain ⟨h1, h2, h3, h4, h5, h6, h7⟩ := h
  refine ⟨fun hj => (hJ B hj).elim h1 (by omega), h2, Nat.lt_of_lt_of_le h3 ho.size, (ho.block B h3 h1).trans h4, bytes_kept h5 ho.size (fun a ha hlt => ho.block _ hlt (h6 a ha).1), fun a ha => ⟨fun hj => (hJ _ hj).elim (h6 a ha).1 (by have := (h6 a ha).2.2; omega), (h6 a ha).2.1, Nat.lt_of_lt_of_le (h6 a ha).2.2 ho.size⟩, ?_⟩
  exact h7.kept ho.size (fun k hk hlt => ho.block k hlt hk.2.2) (fun k hk hlt => ⟨hk.1, hk.2.1, fun hj => (hJ k hj).elim hk.2.2 (by omega)⟩)
theorem BookAt.c0 {N B : Nat} {J : Nat → Prop} {bA : Option Addr} {bc : Nat} {lA : Option Addr} {lc : Nat} {r : RollV} {w : World} (h : BookAt N B J bA bc lA lc r w) : w.cell? ⟨B, 0, none⟩ = some (.slice bA r.base.length bc) := (cell_of_row _ _ _ _ _ _ h.2.2.2.1).trans rfl
theorem BookAt.c1 {N B : Nat} {J : Nat → Prop} {bA : Option Addr} {bc : Nat} {lA : Option Addr} {lc : Nat} {r : RollV} {w : World} (h : BookAt N B J bA bc lA lc r w) : w.cell? ⟨B, 1, none⟩ = some (.slice lA r.recs.length lc) := (cell_of_row _ _ _ _ _ _ h.2.2.2.1).trans rfl
/-- The book is written over. -/
theorem BookAt.put {N B : Nat} {J : Nat → Prop} {bA : Option Addr} {bc : Nat} {lA : Option Addr} {lc : Nat} {r : RollV} {w : World} (h1 : ¬J B) (h2 : N ≤ B) (h3 : B < w.heap.size) {a b : Value} (h4 : w.heap[B]? = some (.cells #[a, b] 34 (0, 0)))
    (h5 : BytesAt w bA r.base) (h6 : ∀ a, bA = some a → ¬J a.block ∧ a.block ≠ B ∧ a.block < w.heap.size) (h7 : RowsL (fun y => N ≤ y ∧ y ≠ B ∧ ¬J y) w lA lc r.recs) :
    BookAt N B J bA bc lA lc r ((w.setCell ⟨B, 0, none⟩ (.slice bA r.base.length bc)).setCell ⟨B, 1, none⟩ (.slice lA r.recs.length lc)) := by
  have hs : ((w.setCell ⟨B, 0, none⟩ (.slice bA r.base.length bc)).setCell ⟨B, 1, none⟩ (.slice lA r.recs.length lc)).heap.size = w.heap.size := by simp [World.setCell]
  have hk : ∀ k, k ≠ B → ((w.setCell ⟨B, 0, none⟩ (.slice bA r.base.length bc)).setCell ⟨B, 1, none⟩ (.slice lA r.recs.length lc)).heap[k]? = w.heap[k]? := fun k hk => by
    rw [Below.heap_setCell _ _ _ _ (show k ≠ B from hk), Below.heap_setCell _ _ _ _ (show k ≠ B from hk)]
  refine ⟨h1, h2, by rw [hs]; exact h3, (two_put h4 _ _).2.2.2.2.2.2, bytes_kept h5 (Nat.le_of_eq hs.symm) (fun a ha _ => hk _ (h6 a ha).2.1), fun a ha => ⟨(h6 a ha).1, (h6 a ha).2.1, by rw [hs]; exact (h6 a ha).2.2⟩, ?_⟩
  exact h7.kept (Nat.le_of_eq hs.symm) (fun k hk' _ => hk k hk'.2.1) (fun k hk' _ => hk')

set_option maxHeartbeats 8000000 in
set_option maxRecDepth 100000 in
theorem journalPlays_any (sectors : Int) (A : Option Addr) (l : List StepV) (c : Nat) (hc : l.length ≤ maxLen) (w : World) (hat : StepsAt w A l) :
    Calls Try.prog 3 #[.int .i64 sectors, .slice A l.length c] w fun e w' => e = .returned (.bool true) ∧ Below w.heap.size w w' := by
  have GA := Lib.hid awake_any
  have HSA := Lib.hid hat
  clear hat
  simp only [maxLen] at hc
  by_cases hbad : sectors < 8 ∨ (¬sectors < 8 ∧ 2000 < sectors) ∨ (¬sectors < 8 ∧ ¬2000 < sectors ∧ 40 < l.length)
  · rcases hbad with h1 | ⟨h1, h2⟩ | ⟨h1, h2, h3⟩
    all_goals
      go_enter Try.func3, Try.ntmps3
      go_wp2_with fail
      refine (GA.out w).mono ?_
      rintro e w3 ⟨rfl, hb3⟩
      have HB3 := Lib.hid hb3; clear hb3
      go_wp2
      go_ret
      exact ⟨rfl, HB3.out⟩
  obtain ⟨n, rfl⟩ : ∃ n : Nat, sectors = (n : Int) := ⟨sectors.toNat, by omega⟩
  have hn1 : 8 ≤ n := by omega
  have hn2 : n ≤ 2000 := by omega
  have hl : l.length ≤ 40 := by omega
  clear hbad hc
  have GN := Lib.hid (jnew1_any (n := n) (by omega) (by omega))
  go_enter Try.func3, Try.ntmps3
  go_wp2_with fail
  refine (GN.out w).mono ?_
  rintro e w2 ⟨g, J2', rfl, hd2', hJ2', hb2⟩
  obtain ⟨J2, hd2, hJ2, _⟩ := hd2'.tidy hJ2'
  have HD2 := Lib.hid hd2; have HJ2 := Lib.hid hJ2; have HB2 : Hid (Below w.heap.size w w2) := hb2
  clear hd2' hJ2' hb2 hd2 hJ2
  go_wp2_with fail
  refine (jopen_any HD2.out (by omega)).mono ?_
  rintro e w3 ⟨gj0, J3', rfl, hJ3', hjo3', hoff3⟩
  obtain ⟨J3, hjo3, hap3, _, hb3⟩ := hjo3'.tidy hJ3' hoff3 HJ2.out HB2.out.size
  have HJO3 : Hid (Jo J3 gj0 g n 300000 ⟨1, [], []⟩ w3) := by
    show Jo _ _ _ _ _ _ _
    have h : Jo J3 gj0 g n (0 + 300000) ⟨1, [], []⟩ w3 := hjo3
    rw [Nat.zero_add] at h
    exact h
  have HAP3 := Lib.hid hap3
  have HB3 : Hid (Below w.heap.size w w3) := HB2.out.trans hb3
  clear hjo3' hJ3' hoff3 hjo3 hap3 hb3
  go_wp2_with fail
  have HBK4 : Hid (BookAt w.heap.size w3.heap.size J3 none 0 none 0 ⟨1, [], []⟩ (w3.alloc (.cells #[.slice none 0 0, .slice none 0 0] 34))) := ⟨fun h => Nat.lt_irrefl _ (HAP3.out _ h).2, HB3.out.size, by simp, heap_alloc_new w3 _, .inl rfl, fun a h => (by cases h), RowsL.nil _ _⟩
  have HJO4 : Hid (Jo J3 gj0 g n 300000 ⟨1, [], []⟩ (w3.alloc (.cells #[.slice none 0 0, .slice none 0 0] 34))) := HJO3.out.below ((Below.refl _ _).alloc (Nat.le_refl _) _)
  have HAP4 : Hid (∀ y, J3 y → w.heap.size ≤ y ∧ y < (w3.alloc (.cells #[.slice none 0 0, .slice none 0 0] 34)).heap.size) := fun y hy => ⟨(HAP3.out y hy).1, Nat.lt_of_lt_of_le (HAP3.out y hy).2 (by simp)⟩
  have HB4 : Hid (Below w.heap.size w (w3.alloc (.cells #[.slice none 0 0, .slice none 0 0] 34))) := balloc HB3.out _
  generalize w3.alloc (.cells #[.slice none 0 0, .slice none 0 0] 34) = w4 at *
  obtain ⟨B, HBB⟩ : ∃ B, Hid (w3.heap.size = B) := ⟨_, rfl⟩
  rw [HBB.out] at HBK4 ⊢
  go_loopw [7, 10] (fun vj vi wr => ∃ (i gj k : Nat) (J : Nat → Prop), i ≤ l.length ∧ k ≤ 300000 + i * 300000 ∧ vj = .pointer (some ⟨gj, 0, none⟩) ∧ vi = .int .i64 (i : Int) ∧ ∃ (r : RollV) (bA : Option Addr) (bc : Nat) (lA : Option Addr) (lc : Nat), Hid (Jo J gj g n k r wr ∧ (∀ y, J y → w.heap.size ≤ y ∧ y < wr.heap.size) ∧ BookAt w.heap.size B J bA bc lA lc r wr ∧ r.recs.length ≤ i ∧ Below w.heap.size w wr)) (fun _ vi _ => l.length - (intOf vi).toNat)
  case atStart => exact ⟨0, gj0, 300000, J3, Nat.zero_le _, by omega, rfl, rfl, ⟨1, [], []⟩, none, 0, none, 0, HJO4.out, HAP4.out, HBK4.out, Nat.le_refl _, HB4.out⟩
  case round =>
    obtain ⟨i, gj, k, J, hi, hk, rfl, rfl, r, bA, bc, lA, lc, HI⟩ := hrel
    by_cases hil : i < l.length
    · obtain ⟨sb, so, rfl, hsb⟩ := (HSA.out.below HI.out.2.2.2.2).form (by omega)
      obtain ⟨s0, s1, s2⟩ := (HSA.out.below HI.out.2.2.2.2).at_ hil
      generalize l[i] = st at s0 s1 s2
      obtain ⟨kd, m, x⟩ := st
      simp only at s0 s1 s2
      by_cases h1 : kd = 1
      · subst h1
        obtain ⟨D, HD⟩ : ∃ D, Hid (dataL m x = D) := ⟨_, Lib.hid rfl⟩
        have HDL : Hid (D.length ≤ 60000) := by
          have h := dataL_length m x
          rw [HD.out] at h
          show _ ≤ _
          omega
        have GDA := Lib.hid (fun w => data_any 1 m x w)
        rw [HD.out] at GDA
        have hal : Below wr.heap.size wr (wr.alloc (.cells #[.int .i64 1, .int .i64 m, .int .i64 x] 36)) := (Below.refl _ _).alloc (Nat.le_refl _) _
        have HJ1 := Lib.hid (HI.out.1.below hal)
        have HBK1 := Lib.hid (HI.out.2.2.1.off (Off.of_below hal) (fun y hy => .inl hy))
        have HAP1 : Hid (∀ y, J y → w.heap.size ≤ y ∧ y < (wr.alloc (.cells #[.int .i64 1, .int .i64 m, .int .i64 x] 36)).heap.size) := fun y hy => ⟨(HI.out.2.1 y hy).1, Nat.lt_of_lt_of_le (HI.out.2.1 y hy).2 hal.size⟩
        have HBW1 : Hid (Below w.heap.size w (wr.alloc (.cells #[.int .i64 1, .int .i64 m, .int .i64 x] 36))) := balloc HI.out.2.2.2.2 _
        have HS1 : Hid ((wr.alloc (.cells #[.int .i64 1, .int .i64 m, .int .i64 x] 36)).heap[wr.heap.size]? = some (.cells #[.int .i64 1, .int .i64 m, .int .i64 x] 36 (0, 0))) := heap_alloc_new wr _
        have HS1L : Hid (wr.heap.size < (wr.alloc (.cells #[.int .i64 1, .int .i64 m, .int .i64 x] 36)).heap.size ∧ ¬J wr.heap.size) := ⟨by simp, fun h => Nat.lt_irrefl _ (HI.out.2.1 _ h).2⟩
        have HLR : Hid (r.recs.length ≤ i) := HI.out.2.2.2.1
        have HLE : Hid (r.recs.length ≤ i + 1) := Nat.le_succ_of_le HI.out.2.2.2.1
        have hsl : sb < wr.heap.size := hsb
        clear hal
        go_wp2_with fail
        generalize (wr.alloc (.cells #[.int .i64 1, .int .i64 m, .int .i64 x] 36)) = w5 at *
        generalize wr.heap.size = s at *
        refine (jroom_any HJ1.out).mono ?_
        rintro e w6 ⟨⟨R, rfl, _, _, hR⟩, hb6⟩
        have HRM := Lib.hid (hR D.length HDL.out)
        have HJ6 := Lib.hid (HJ1.out.below hb6)
        have HBK6 := Lib.hid (HBK1.out.off (Off.of_below hb6) (fun y hy => .inl hy))
        have HAP6 : Hid (∀ y, J y → w.heap.size ≤ y ∧ y < w6.heap.size) := fun y hy => ⟨(HAP1.out y hy).1, Nat.lt_of_lt_of_le (HAP1.out y hy).2 hb6.size⟩
        have HBW6 : Hid (Below w.heap.size w w6) := HBW1.out.trans (hb6.mono HBW1.out.size)
        have HS6 : Hid (w6.heap[s]? = some (.cells #[.int .i64 1, .int .i64 m, .int .i64 x] 36 (0, 0))) := (hb6.block _ HS1L.out.1).trans HS1.out
        have HS6L : Hid (s < w6.heap.size) := Nat.lt_of_lt_of_le HS1L.out.1 hb6.size
        clear hb6 hR
        have t0 : w6.cell? ⟨s, 0, none⟩ = some (.int .i64 1) := (cell_of_row _ _ _ _ _ _ HS6.out).trans rfl
        have t1 : w6.cell? ⟨s, 1, none⟩ = some (.int .i64 m) := (cell_of_row _ _ _ _ _ _ HS6.out).trans rfl
        have t2 : w6.cell? ⟨s, 2, none⟩ = some (.int .i64 x) := (cell_of_row _ _ _ _ _ _ HS6.out).trans rfl
        go_wp2_with fail
        refine (does_append HJ6.out (by omega) HAP6.out HBW6.out.size m x D HD.out).mono ?_
        rintro e w7 ⟨hb7, ho7, J7, hap7, hnj7, hend⟩
        clear t0 t1 t2
        have HAP7 := Lib.hid hap7
        have HBW7 : Hid (Below w.heap.size w w7) := HBW6.out.trans hb7
        have HBK7 := Lib.hid (HBK6.out.off ho7 hnj7)
        have HS7 : Hid (w7.heap[s]? = some (.cells #[.int .i64 1, .int .i64 m, .int .i64 x] 36 (0, 0))) := (ho7.block _ HS6L.out HS1L.out.2).trans HS6.out
        have HS7L : Hid (s < w7.heap.size) := Nat.lt_of_lt_of_le HS6L.out ho7.size
        clear hb7 ho7 hap7 hnj7
        have t0 : w7.cell? ⟨s, 0, none⟩ = some (.int .i64 1) := (cell_of_row _ _ _ _ _ _ HS7.out).trans rfl
        have t1 : w7.cell? ⟨s, 1, none⟩ = some (.int .i64 m) := (cell_of_row _ _ _ _ _ _ HS7.out).trans rfl
        have t2 : w7.cell? ⟨s, 2, none⟩ = some (.int .i64 x) := (cell_of_row _ _ _ _ _ _ HS7.out).trans rfl
        rcases hend with ⟨hfull, rfl, hjo7⟩ | ⟨hroom, rfl, hjo7⟩
        · have hR : R < (D.length : Int) := by
            have h := HRM.out
            omega
          have HJ7 := Lib.hid hjo7
          clear hjo7 hfull
          go_wp2_with fail
          refine (GDA.out w7).mono ?_
          rintro e w8' ⟨⟨da, dc, rfl, _⟩, hb8'⟩
          have HJO := Lib.hid (HJ7.out.below hb8')
          have HBK := Lib.hid (HBK7.out.off (Off.of_below hb8') (fun y hy => .inl hy))
          have HBW : Hid (Below w.heap.size w w8') := HBW7.out.trans (hb8'.mono HBW7.out.size)
          have HAPE : Hid (∀ y, J7 y → w.heap.size ≤ y ∧ y < w8'.heap.size) := fun y hy => ⟨(HAP7.out y hy).1, Nat.lt_of_lt_of_le (HAP7.out y hy).2 hb8'.size⟩
          clear hb8' t0 t1 t2
          have GS := Lib.hid (shows_yes HJO.out bA bc lA lc HBK.out.2.2.2.2.1 (RowsL.list HBK.out.2.2.2.2.2.2))
          have b0 := HBK.out.c0; have b1 := HBK.out.c1
          go_wp2_with fail
          refine GS.out.mono ?_
          rintro e w8 ⟨rfl, hb8⟩
          have HJ8 := Lib.hid (HJO.out.below hb8)
          have HK8 := Lib.hid (HBK.out.off (Off.of_below hb8) (fun y hy => .inl hy))
          have HB8 : Hid (Below w.heap.size w w8) := HBW.out.trans (hb8.mono HBW.out.size)
          have HAP8 : Hid (∀ y, J7 y → w.heap.size ≤ y ∧ y < w8.heap.size) := fun y hy => ⟨(HAPE.out y hy).1, Nat.lt_of_lt_of_le (HAPE.out y hy).2 hb8.size⟩
          clear hb8
          go_wp2_with fail
          refine (jdead_any HJ8.out).mono ?_
          rintro e w9 ⟨rfl, e9⟩
          subst e9
          go_wp2_with fail
          go_roundw
          case measure => simp [intOf]; omega
          exact ⟨i + 1, gj, k, J7, by omega, Nat.le_trans hk (Nat.add_le_add_left (Nat.mul_le_mul_right _ (Nat.le_succ i)) _), rfl, by go_num, r, _, _, _, _, HJ8.out, HAP8.out, HK8.out, HLE.out, HB8.out⟩
        · have hR : (D.length : Int) ≤ R := HRM.out.2 hroom
          have HJ7 := Lib.hid hjo7
          clear hjo7 hroom
          go_wp2_with fail
          refine (GDA.out w7).mono ?_
          rintro e w8' ⟨⟨da, dc, rfl, _⟩, hb8'⟩
          have HJ8' := Lib.hid (HJ7.out.below hb8')
          have HBK8' := Lib.hid (HBK7.out.off (Off.of_below hb8') (fun y hy => .inl hy))
          have HBW8' : Hid (Below w.heap.size w w8') := HBW7.out.trans (hb8'.mono HBW7.out.size)
          have HAP8' : Hid (∀ y, J7 y → w.heap.size ≤ y ∧ y < w8'.heap.size) := fun y hy => ⟨(HAP7.out y hy).1, Nat.lt_of_lt_of_le (HAP7.out y hy).2 hb8'.size⟩
          have HS8' : Hid (w8'.heap[s]? = some (.cells #[.int .i64 1, .int .i64 m, .int .i64 x] 36 (0, 0))) := (hb8'.block _ HS7L.out).trans HS7.out
          clear hb8' t0 t1 t2
          have b0 := HBK8'.out.c0; have b1 := HBK8'.out.c1
          have t0 : w8'.cell? ⟨s, 0, none⟩ = some (.int .i64 1) := (cell_of_row _ _ _ _ _ _ HS8'.out).trans rfl
          have t1 : w8'.cell? ⟨s, 1, none⟩ = some (.int .i64 m) := (cell_of_row _ _ _ _ _ _ HS8'.out).trans rfl
          have t2 : w8'.cell? ⟨s, 2, none⟩ = some (.int .i64 x) := (cell_of_row _ _ _ _ _ _ HS8'.out).trans rfl
          have GDN := Lib.hid (done_append (P := fun y => w.heap.size ≤ y ∧ y ≠ B ∧ ¬J7 y) bA r.base.length bc lA r.recs lc HBK8'.out.2.2.2.2.2.2 (fun y hy => ⟨Nat.le_trans HBW8'.out.size hy, by have h1 := HBK8'.out.2.2.1; omega, fun h => Nat.lt_irrefl _ (Nat.lt_of_lt_of_le (HAP8'.out y h).2 hy)⟩) (by have h := HLR.out; omega) m x D HD.out)
          go_wp2_with fail
          refine GDN.out.mono ?_
          rintro e w9 ⟨⟨A9, c9, rfl, hr9⟩, hb9⟩
          clear b0 b1 t0 t1 t2
          have HJ9 := Lib.hid (HJ8'.out.below hb9)
          have HBK9 := Lib.hid (HBK8'.out.off (Off.of_below hb9) (fun y hy => .inl hy))
          have HBW9 : Hid (Below w.heap.size w w9) := HBW8'.out.trans (hb9.mono HBW8'.out.size)
          obtain ⟨c0, f0, c1, f1, c2, f2, _⟩ := two_put HBK9.out.2.2.2.1 (.slice bA r.base.length bc) (.slice A9 (r.recs.length + 1) c9)
          have HLN : Hid ((r.recs ++ [D]).length = r.recs.length + 1) := List.length_append
          have HBK : Hid (BookAt w.heap.size B J7 bA bc A9 c9 ⟨r.turn, r.base, r.recs ++ [D]⟩ ((w9.setCell ⟨B, 0, none⟩ (.slice bA r.base.length bc)).setCell ⟨B, 1, none⟩ (.slice A9 (r.recs.length + 1) c9))) := by
            have h := BookAt.put (bc := bc) (r := ⟨r.turn, r.base, r.recs ++ [D]⟩) HBK9.out.1 HBK9.out.2.1 HBK9.out.2.2.1 HBK9.out.2.2.2.1 HBK9.out.2.2.2.2.1 HBK9.out.2.2.2.2.2.1 hr9
            have h2 : (⟨r.turn, r.base, r.recs ++ [D]⟩ : RollV).recs.length = r.recs.length + 1 := HLN.out
            rw [h2] at h
            exact h
          have HJO : Hid (Jo J7 gj g n (k + 100000) ⟨r.turn, r.base, r.recs ++ [D]⟩ ((w9.setCell ⟨B, 0, none⟩ (.slice bA r.base.length bc)).setCell ⟨B, 1, none⟩ (.slice A9 (r.recs.length + 1) c9))) := (HJ9.out.set (p := ⟨B, 0, none⟩) HBK9.out.1 _).set (p := ⟨B, 1, none⟩) HBK9.out.1 _
          have HAPE : Hid (∀ y, J7 y → w.heap.size ≤ y ∧ y < ((w9.setCell ⟨B, 0, none⟩ (.slice bA r.base.length bc)).setCell ⟨B, 1, none⟩ (.slice A9 (r.recs.length + 1) c9)).heap.size) := fun y hy => ⟨(HAP8'.out y hy).1, by simpa [World.setCell] using Nat.lt_of_lt_of_le (HAP8'.out y hy).2 hb9.size⟩
          have HBW : Hid (Below w.heap.size w ((w9.setCell ⟨B, 0, none⟩ (.slice bA r.base.length bc)).setCell ⟨B, 1, none⟩ (.slice A9 (r.recs.length + 1) c9))) := (HBW9.out.setCell (p := ⟨B, 0, none⟩) HBK9.out.2.1 _).setCell (p := ⟨B, 1, none⟩) HBK9.out.2.1 _
          have b0 : ((w9.setCell ⟨B, 0, none⟩ (.slice bA r.base.length bc)).setCell ⟨B, 1, none⟩ (.slice A9 (r.recs.length + 1) c9)).cell? ⟨B, 0, none⟩ = some (.slice bA r.base.length bc) := HBK.out.c0
          have b1 : ((w9.setCell ⟨B, 0, none⟩ (.slice bA r.base.length bc)).setCell ⟨B, 1, none⟩ (.slice A9 (r.recs.length + 1) c9)).cell? ⟨B, 1, none⟩ = some (.slice A9 (r.recs.length + 1) c9) := HBK.out.c1.trans (by rw [show (⟨r.turn, r.base, r.recs ++ [D]⟩ : RollV).recs.length = r.recs.length + 1 from HLN.out])
          have GS : Hid (Calls Try.prog 14 #[.pointer (some ⟨gj, 0, none⟩), .agg #[.slice bA r.base.length bc, .slice A9 (r.recs.length + 1) c9]] ((w9.setCell ⟨B, 0, none⟩ (.slice bA r.base.length bc)).setCell ⟨B, 1, none⟩ (.slice A9 (r.recs.length + 1) c9)) fun e w' => e = .returned (.bool true) ∧ Below ((w9.setCell ⟨B, 0, none⟩ (.slice bA r.base.length bc)).setCell ⟨B, 1, none⟩ (.slice A9 (r.recs.length + 1) c9)).heap.size ((w9.setCell ⟨B, 0, none⟩ (.slice bA r.base.length bc)).setCell ⟨B, 1, none⟩ (.slice A9 (r.recs.length + 1) c9)) w') := by
            have h := shows_yes HJO.out bA bc A9 c9 HBK.out.2.2.2.2.1 (RowsL.list HBK.out.2.2.2.2.2.2)
            rw [show (⟨r.turn, r.base, r.recs ++ [D]⟩ : RollV).recs.length = r.recs.length + 1 from HLN.out] at h
            exact h
          clear HLE hr9 hb9
          have HLE : Hid ((⟨r.turn, r.base, r.recs ++ [D]⟩ : RollV).recs.length ≤ i + 1) := by
            show (r.recs ++ [D]).length ≤ i + 1
            rw [HLN.out]
            exact Nat.succ_le_succ HLR.out
          go_wp2_with fail
          refine GS.out.mono ?_
          rintro e w8 ⟨rfl, hb8⟩
          have HJ8 := Lib.hid (HJO.out.below hb8)
          have HK8 := Lib.hid (HBK.out.off (Off.of_below hb8) (fun y hy => .inl hy))
          have HB8 : Hid (Below w.heap.size w w8) := HBW.out.trans (hb8.mono HBW.out.size)
          have HAP8 : Hid (∀ y, J7 y → w.heap.size ≤ y ∧ y < w8.heap.size) := fun y hy => ⟨(HAPE.out y hy).1, Nat.lt_of_lt_of_le (HAPE.out y hy).2 hb8.size⟩
          clear hb8
          go_wp2_with fail
          refine (jdead_any HJ8.out).mono ?_
          rintro e w9 ⟨rfl, e9⟩
          subst e9
          go_wp2_with fail
          go_roundw
          case measure => simp [intOf]; omega
          exact ⟨i + 1, gj, (k + 100000), J7, by omega, by omega, rfl, by go_num, ⟨r.turn, r.base, r.recs ++ [D]⟩, _, _, _, _, HJ8.out, HAP8.out, HK8.out, HLE.out, HB8.out⟩
      by_cases h2 : kd = 2
      · subst h2
        obtain ⟨D, HD⟩ : ∃ D, Hid (dataL m x = D) := ⟨_, Lib.hid rfl⟩
        have hal : Below wr.heap.size wr (wr.alloc (.cells #[.int .i64 2, .int .i64 m, .int .i64 x] 36)) := (Below.refl _ _).alloc (Nat.le_refl _) _
        have HJ1 := Lib.hid (HI.out.1.below hal)
        have HBK1 := Lib.hid (HI.out.2.2.1.off (Off.of_below hal) (fun y hy => .inl hy))
        have HAP1 : Hid (∀ y, J y → w.heap.size ≤ y ∧ y < (wr.alloc (.cells #[.int .i64 2, .int .i64 m, .int .i64 x] 36)).heap.size) := fun y hy => ⟨(HI.out.2.1 y hy).1, Nat.lt_of_lt_of_le (HI.out.2.1 y hy).2 hal.size⟩
        have HBW1 : Hid (Below w.heap.size w (wr.alloc (.cells #[.int .i64 2, .int .i64 m, .int .i64 x] 36))) := balloc HI.out.2.2.2.2 _
        have HS1 : Hid ((wr.alloc (.cells #[.int .i64 2, .int .i64 m, .int .i64 x] 36)).heap[wr.heap.size]? = some (.cells #[.int .i64 2, .int .i64 m, .int .i64 x] 36 (0, 0)) ∧ wr.heap.size < (wr.alloc (.cells #[.int .i64 2, .int .i64 m, .int .i64 x] 36)).heap.size ∧ ¬J wr.heap.size) := ⟨heap_alloc_new wr _, by simp, fun h => Nat.lt_irrefl _ (HI.out.2.1 _ h).2⟩
        have HLE : Hid (r.recs.length ≤ i + 1) := Nat.le_succ_of_le HI.out.2.2.2.1
        have hsl : sb < wr.heap.size := hsb
        clear hal
        go_wp2_with fail
        generalize (wr.alloc (.cells #[.int .i64 2, .int .i64 m, .int .i64 x] 36)) = w5 at *
        generalize wr.heap.size = s at *
        refine (does_reset HJ1.out (by omega) HAP1.out HBW1.out.size m x D HD.out).mono ?_
        rintro e w6 ⟨hb6, ho6, J6, hap6, hnj6, hend⟩
        have HAPE := Lib.hid hap6
        have HBW6 : Hid (Below w.heap.size w w6) := HBW1.out.trans hb6
        have HBK6 := Lib.hid (HBK1.out.off ho6 hnj6)
        have hs6 := (ho6.block _ HS1.out.2.1 HS1.out.2.2).trans HS1.out.1
        have HS6 := Lib.hid hs6
        clear hb6 ho6 hap6 hnj6
        rcases hend with ⟨rfl, hjo6⟩ | ⟨rfl, hjo6⟩
        · have HJO := Lib.hid hjo6
          have HBK := HBK6; have HBW := HBW6
          clear hjo6 hs6
          have GS := Lib.hid (shows_yes HJO.out bA bc lA lc HBK.out.2.2.2.2.1 (RowsL.list HBK.out.2.2.2.2.2.2))
          have b0 := HBK.out.c0; have b1 := HBK.out.c1
          go_wp2_with fail
          refine GS.out.mono ?_
          rintro e w8 ⟨rfl, hb8⟩
          have HJ8 := Lib.hid (HJO.out.below hb8)
          have HK8 := Lib.hid (HBK.out.off (Off.of_below hb8) (fun y hy => .inl hy))
          have HB8 : Hid (Below w.heap.size w w8) := HBW.out.trans (hb8.mono HBW.out.size)
          have HAP8 : Hid (∀ y, J6 y → w.heap.size ≤ y ∧ y < w8.heap.size) := fun y hy => ⟨(HAPE.out y hy).1, Nat.lt_of_lt_of_le (HAPE.out y hy).2 hb8.size⟩
          clear hb8
          go_wp2_with fail
          refine (jdead_any HJ8.out).mono ?_
          rintro e w9 ⟨rfl, e9⟩
          subst e9
          go_wp2_with fail
          go_roundw
          case measure => simp [intOf]; omega
          exact ⟨i + 1, gj, k, J6, by omega, Nat.le_trans hk (Nat.add_le_add_left (Nat.mul_le_mul_right _ (Nat.le_succ i)) _), rfl, by go_num, r, _, _, _, _, HJ8.out, HAP8.out, HK8.out, HLE.out, HB8.out⟩
        · have HJO6 := Lib.hid hjo6
          have b0 := HBK6.out.c0; have b1 := HBK6.out.c1
          have t0 : w6.cell? ⟨s, 0, none⟩ = some (.int .i64 2) := (cell_of_row _ _ _ _ _ _ hs6).trans rfl
          have t1 : w6.cell? ⟨s, 1, none⟩ = some (.int .i64 m) := (cell_of_row _ _ _ _ _ _ hs6).trans rfl
          have t2 : w6.cell? ⟨s, 2, none⟩ = some (.int .i64 x) := (cell_of_row _ _ _ _ _ _ hs6).trans rfl
          clear hjo6 hs6
          have GDN := Lib.hid (done_reset (w := w6) bA r.base.length bc lA r.recs.length lc m x D HD.out)
          go_wp2_with fail
          refine GDN.out.mono ?_
          rintro e w7 ⟨⟨da, dc, rfl, hdat, hda, hdl⟩, hb7⟩
          clear b0 b1 t0 t1 t2
          have HJ7 := Lib.hid (HJO6.out.below hb7)
          have HBK7 := Lib.hid (HBK6.out.off (Off.of_below hb7) (fun y hy => .inl hy))
          have HBW7 : Hid (Below w.heap.size w w7) := HBW6.out.trans (hb7.mono HBW6.out.size)
          have HAP7 : Hid (∀ y, J6 y → w.heap.size ≤ y ∧ y < w7.heap.size) := fun y hy => ⟨(HAPE.out y hy).1, Nat.lt_of_lt_of_le (HAPE.out y hy).2 hb7.size⟩
          obtain ⟨c0, f0, c1, f1, c2, f2, _⟩ := two_put HBK7.out.2.2.2.1 (.slice (some ⟨da, 0, none⟩) D.length dc) (.slice none 0 0)
          have HBK : Hid (BookAt w.heap.size B J6 (some ⟨da, 0, none⟩) dc none 0 ⟨r.turn + 1, D, []⟩ ((w7.setCell ⟨B, 0, none⟩ (.slice (some ⟨da, 0, none⟩) D.length dc)).setCell ⟨B, 1, none⟩ (.slice none 0 0))) := BookAt.put (r := ⟨r.turn + 1, D, []⟩) HBK7.out.1 HBK7.out.2.1 HBK7.out.2.2.1 HBK7.out.2.2.2.1 hdat (fun a ha => by
            injection ha with ha
            subst ha
            refine ⟨fun h => Nat.lt_irrefl _ (Nat.lt_of_lt_of_le (HAPE.out _ h).2 hda), fun e => ?_, hdl⟩
            have h1 := HBK6.out.2.2.1
            have h2 : da = B := e
            omega) (RowsL.nil _ _)
          have HJO : Hid (Jo J6 gj g n (k + 200000) ⟨r.turn + 1, D, []⟩ ((w7.setCell ⟨B, 0, none⟩ (.slice (some ⟨da, 0, none⟩) D.length dc)).setCell ⟨B, 1, none⟩ (.slice none 0 0))) := (HJ7.out.set (p := ⟨B, 0, none⟩) HBK7.out.1 _).set (p := ⟨B, 1, none⟩) HBK7.out.1 _
          have HAP9 : Hid (∀ y, J6 y → w.heap.size ≤ y ∧ y < ((w7.setCell ⟨B, 0, none⟩ (.slice (some ⟨da, 0, none⟩) D.length dc)).setCell ⟨B, 1, none⟩ (.slice none 0 0)).heap.size) := fun y hy => ⟨(HAP7.out y hy).1, by simpa [World.setCell] using (HAP7.out y hy).2⟩
          have HBW : Hid (Below w.heap.size w ((w7.setCell ⟨B, 0, none⟩ (.slice (some ⟨da, 0, none⟩) D.length dc)).setCell ⟨B, 1, none⟩ (.slice none 0 0))) := (HBW7.out.setCell (p := ⟨B, 0, none⟩) HBK7.out.2.1 _).setCell (p := ⟨B, 1, none⟩) HBK7.out.2.1 _
          have b0 : ((w7.setCell ⟨B, 0, none⟩ (.slice (some ⟨da, 0, none⟩) D.length dc)).setCell ⟨B, 1, none⟩ (.slice none 0 0)).cell? ⟨B, 0, none⟩ = some (.slice (some ⟨da, 0, none⟩) D.length dc) := HBK.out.c0
          have b1 : ((w7.setCell ⟨B, 0, none⟩ (.slice (some ⟨da, 0, none⟩) D.length dc)).setCell ⟨B, 1, none⟩ (.slice none 0 0)).cell? ⟨B, 1, none⟩ = some (.slice none 0 0) := HBK.out.c1
          have GS : Hid (Calls Try.prog 14 #[.pointer (some ⟨gj, 0, none⟩), .agg #[.slice (some ⟨da, 0, none⟩) D.length dc, .slice none 0 0]] ((w7.setCell ⟨B, 0, none⟩ (.slice (some ⟨da, 0, none⟩) D.length dc)).setCell ⟨B, 1, none⟩ (.slice none 0 0)) fun e w' => e = .returned (.bool true) ∧ Below ((w7.setCell ⟨B, 0, none⟩ (.slice (some ⟨da, 0, none⟩) D.length dc)).setCell ⟨B, 1, none⟩ (.slice none 0 0)).heap.size ((w7.setCell ⟨B, 0, none⟩ (.slice (some ⟨da, 0, none⟩) D.length dc)).setCell ⟨B, 1, none⟩ (.slice none 0 0)) w') := shows_yes HJO.out _ _ _ _ HBK.out.2.2.2.2.1 (RowsL.list HBK.out.2.2.2.2.2.2)
          have HLE : Hid ((⟨r.turn + 1, D, []⟩ : RollV).recs.length ≤ i + 1) := Nat.zero_le _
          clear HAPE hdat hda hdl hb7
          have HAPE := HAP9
          go_wp2_with fail
          refine GS.out.mono ?_
          rintro e w8 ⟨rfl, hb8⟩
          have HJ8 := Lib.hid (HJO.out.below hb8)
          have HK8 := Lib.hid (HBK.out.off (Off.of_below hb8) (fun y hy => .inl hy))
          have HB8 : Hid (Below w.heap.size w w8) := HBW.out.trans (hb8.mono HBW.out.size)
          have HAP8 : Hid (∀ y, J6 y → w.heap.size ≤ y ∧ y < w8.heap.size) := fun y hy => ⟨(HAPE.out y hy).1, Nat.lt_of_lt_of_le (HAPE.out y hy).2 hb8.size⟩
          clear hb8
          go_wp2_with fail
          refine (jdead_any HJ8.out).mono ?_
          rintro e w9 ⟨rfl, e9⟩
          subst e9
          go_wp2_with fail
          go_roundw
          case measure => simp [intOf]; omega
          exact ⟨i + 1, gj, (k + 200000), J6, by omega, by omega, rfl, by go_num, ⟨r.turn + 1, D, []⟩, _, _, _, _, HJ8.out, HAP8.out, HK8.out, HLE.out, HB8.out⟩
      by_cases h3 : kd = 3
      · subst h3
        have hal : Below wr.heap.size wr (wr.alloc (.cells #[.int .i64 3, .int .i64 m, .int .i64 x] 36)) := (Below.refl _ _).alloc (Nat.le_refl _) _
        have HJ1 := Lib.hid (HI.out.1.below hal)
        have HBK1 := Lib.hid (HI.out.2.2.1.off (Off.of_below hal) (fun y hy => .inl hy))
        have HAP1 : Hid (∀ y, J y → w.heap.size ≤ y ∧ y < (wr.alloc (.cells #[.int .i64 3, .int .i64 m, .int .i64 x] 36)).heap.size) := fun y hy => ⟨(HI.out.2.1 y hy).1, Nat.lt_of_lt_of_le (HI.out.2.1 y hy).2 hal.size⟩
        have HBW1 : Hid (Below w.heap.size w (wr.alloc (.cells #[.int .i64 3, .int .i64 m, .int .i64 x] 36))) := balloc HI.out.2.2.2.2 _
        have HLE : Hid (r.recs.length ≤ i + 1) := Nat.le_succ_of_le HI.out.2.2.2.1
        have hsl : sb < wr.heap.size := hsb
        clear hal
        go_wp2_with fail
        generalize (wr.alloc (.cells #[.int .i64 3, .int .i64 m, .int .i64 x] 36)) = w5 at *
        refine (jopen_any HJ1.out.disk (by omega)).mono ?_
        rintro e w6 ⟨gk, J6', rfl, hJ6', hjo6', hoff6⟩
        obtain ⟨J6, hjo6, hap6, hnj6, hb6⟩ := hjo6'.tidy hJ6' hoff6 HAP1.out HBW1.out.size
        have HJO : Hid (Jo J6 gk g n (k + 300000) r w6) := hjo6
        have HAPE := Lib.hid hap6
        have HBW : Hid (Below w.heap.size w w6) := HBW1.out.trans hb6
        have HBK := Lib.hid (HBK1.out.off hoff6 hnj6)
        clear hjo6' hJ6' hoff6 hjo6 hap6 hb6 hnj6
        have GS := Lib.hid (shows_yes HJO.out bA bc lA lc HBK.out.2.2.2.2.1 (RowsL.list HBK.out.2.2.2.2.2.2))
        have b0 := HBK.out.c0; have b1 := HBK.out.c1
        go_wp2_with fail
        refine GS.out.mono ?_
        rintro e w8 ⟨rfl, hb8⟩
        have HJ8 := Lib.hid (HJO.out.below hb8)
        have HK8 := Lib.hid (HBK.out.off (Off.of_below hb8) (fun y hy => .inl hy))
        have HB8 : Hid (Below w.heap.size w w8) := HBW.out.trans (hb8.mono HBW.out.size)
        have HAP8 : Hid (∀ y, J6 y → w.heap.size ≤ y ∧ y < w8.heap.size) := fun y hy => ⟨(HAPE.out y hy).1, Nat.lt_of_lt_of_le (HAPE.out y hy).2 hb8.size⟩
        clear hb8
        go_wp2_with fail
        refine (jdead_any HJ8.out).mono ?_
        rintro e w9 ⟨rfl, e9⟩
        subst e9
        go_wp2_with fail
        go_roundw
        case measure => simp [intOf]; omega
        exact ⟨i + 1, gk, (k + 300000), J6, by omega, by omega, rfl, by go_num, r, _, _, _, _, HJ8.out, HAP8.out, HK8.out, HLE.out, HB8.out⟩
      · clear GN HD2 HJ2 HB2 HJO3 HAP3 HB3
        have hal : Below wr.heap.size wr (wr.alloc (.cells #[.int .i64 kd, .int .i64 m, .int .i64 x] 36)) := (Below.refl _ _).alloc (Nat.le_refl _) _
        have HJO := Lib.hid (HI.out.1.below hal)
        have HBK := Lib.hid (HI.out.2.2.1.off (Off.of_below hal) (fun y hy => .inl hy))
        have HAPE : Hid (∀ y, J y → w.heap.size ≤ y ∧ y < (wr.alloc (.cells #[.int .i64 kd, .int .i64 m, .int .i64 x] 36)).heap.size) := fun y hy => ⟨(HI.out.2.1 y hy).1, Nat.lt_of_lt_of_le (HI.out.2.1 y hy).2 hal.size⟩
        have HBW : Hid (Below w.heap.size w (wr.alloc (.cells #[.int .i64 kd, .int .i64 m, .int .i64 x] 36))) := balloc HI.out.2.2.2.2 _
        have HLE : Hid (r.recs.length ≤ i + 1) := Nat.le_succ_of_le HI.out.2.2.2.1
        have GS := Lib.hid (shows_yes HJO.out bA bc lA lc HBK.out.2.2.2.2.1 (RowsL.list HBK.out.2.2.2.2.2.2))
        have b0 := HBK.out.c0; have b1 := HBK.out.c1
        have hbl : B < wr.heap.size := HI.out.2.2.1.2.2.1
        have hsl : sb < wr.heap.size := hsb
        clear hal
        go_wp2_with fail
        refine GS.out.mono ?_
        rintro e w8 ⟨rfl, hb8⟩
        have HJ8 := Lib.hid (HJO.out.below hb8)
        have HK8 := Lib.hid (HBK.out.off (Off.of_below hb8) (fun y hy => .inl hy))
        have HB8 : Hid (Below w.heap.size w w8) := HBW.out.trans (hb8.mono HBW.out.size)
        have HAP8 : Hid (∀ y, J y → w.heap.size ≤ y ∧ y < w8.heap.size) := fun y hy => ⟨(HAPE.out y hy).1, Nat.lt_of_lt_of_le (HAPE.out y hy).2 hb8.size⟩
        clear hb8
        go_wp2_with fail
        refine (jdead_any HJ8.out).mono ?_
        rintro e w9 ⟨rfl, e9⟩
        subst e9
        go_wp2_with fail
        go_roundw
        case measure => simp [intOf]; omega
        exact ⟨i + 1, gj, k, J, by omega, Nat.le_trans hk (Nat.add_le_add_left (Nat.mul_le_mul_right _ (Nat.le_succ i)) _), rfl, by go_num, r, _, _, _, _, HJ8.out, HAP8.out, HK8.out, HLE.out, HB8.out⟩
    · go_wp2_with fail
      refine (GA.out _).mono ?_
      rintro e w5 ⟨rfl, hb5⟩
      have HB5 : Hid (Below w.heap.size w w5) := HI.out.2.2.2.2.trans (hb5.mono HI.out.2.2.2.2.size)
      clear hb5
      go_wp2
      go_ret
      exact ⟨rfl, HB5.out⟩
end Go.Proofs.Ytahfkcfbmklfpaa

/- JournalPlays holds: whatever is appended and begun anew, each call answers, base and records are shown, what was refused changes nothing, opened again it is the same: whatever number of sectors and steps the law is called with: it answers true and changes nothing. No condition. -/
namespace Go.Proofs.Ytahfkcfbmklfpaa
open Go.ChangeShapes Go.WideShapes Go.ChangeAt Go.RowKit

set_option maxRecDepth 100000 in
theorem journalPlays_lifted (os : Os) (started : os.Started) (H : Type) (enc : TypeId × Value → H) :
    ReturnsInHanded {} Try.checked os 3 .any (Rows.journalPlaysSpec.pre6 enc Try.prog Try.f3 Rows.journalPlaysRow.domain false) (Rows.journalPlaysSpec.post enc Try.prog Try.f3 false true false false) := by
  refine returnsInHanded_of_change (C := Try.checked) law_own started (by kernel_rfl) Try.func3
    (ChangeSpec.witness6 (enc := enc) (C := Try.checked) false ⟨#[], #[.int .i64 0, .slice none 0 0], []⟩ 8 (by kernel_rfl) (by kernel_rfl) (by kernel_rfl) (by kernel_rfl)) ?_
  intro W base args ds gs before hval0 hW _ _
  have hval : ∀ (j : Nat) t v, Try.f3.params[j]? = some t → args[j]? = some v → Value.okWide Try.prog W .any base t v := hval0
  have hW' := hW
  obtain ⟨p, q, hA0, hV, rfl, _, _⟩ := hW
  have hlt : ∀ x ∈ p ++ q, x.block < W.heap.size := fun x hx => hW'.lt x hx
  have hA : DataW.TrodAll enc Try.prog W 0 (fun _ => true) true Try.f3.params.toList args.toList ds p := hA0
  rw [Try.params3] at hA hval
  obtain ⟨v0, v1, d0, d1, p0, p1, rfl, rfl, rfl, h0, h1⟩ := trodAll_two hA
  obtain ⟨rfl, rfl⟩ := trodVars_none hV
  obtain ⟨n0, rfl, rfl, rfl, hn0⟩ := open_int Try.underlying3 (hval 0 3 v0 rfl rfl) h0
  obtain ⟨A1, l1, c1, rfl, hat1, _, hlc1, hc1⟩ := open_steps (hval 1 22 v1 rfl rfl) h1 (fun x hx => hlt x (by simp [hx]))
  clear hA0 hval0
  refine (journalPlays_any n0 A1 l1 c1 (by omega) W hat1).mono fun e W' ⟨he, hb⟩ => ?_
  exact ⟨_, he, law_post law_laid (by kernel_rfl) (by kernel_rfl) Try.underlying4 rfl hW' rfl hb⟩

theorem journalPlays_holds : Rows.JournalPlaysSaid :=
  OpenClaim.holds_of_wide 3 Try.f3 rfl rfl rfl rfl rfl rfl rfl ⟨rfl, rfl, rfl, rfl, rfl⟩ rfl rfl rfl rfl rfl (by kernel_rfl) Try.func3 (by kernel_rfl)
    (of_decide_eq_true (by kernel_rfl)) (by unfold Func.isWrapper; first | (rw [if_pos (by decide +kernel)]; kernel_rfl) | (rw [if_neg (by decide +kernel)]; exact ⟨rfl, rfl⟩))
    (fun os started H enc _ => journalPlays_lifted os started H enc)
end Go.Proofs.Ytahfkcfbmklfpaa
