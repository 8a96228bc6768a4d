/- Records in slices that come in: an integer, a bool, a text out of a record's cells; records put together to one list. Condition: no slice and no text is longer than memory. -/
import Derived.Test.YtgenphpaidanhaaCells
import Derived.Test.YtgenphpaidanhaaInts
namespace Go.Proofs.Ytgenphpaidanhaa
open Go.ChangeShapes Go.WideShapes Go.ChangeAt Go.RowKit Go.Deep

/-- A number that an int may hold. -/
def Fit64 (n : Int) : Prop := -9223372036854775808 ≤ n ∧ n ≤ 9223372036854775807
/-- Bytes of a text. -/
def Bytes (l : List Nat) : Prop := (∀ x ∈ l, x < 256) ∧ l.length ≤ maxLen
section
variable {H : Type} {enc : TypeId × Value → H} {w : World}
theorem fit_of_wf {n : Int} (h : (Lit.int .i64 n).wf = true) : Fit64 n := by simpa [Fit64, Lit.wf, IntKind.min, IntKind.max, IntKind.signed, IntKind.bits] using h
theorem bytes_of (s : ByteArray) (h : s.size ≤ maxLen) : ∃ l, Bytes l ∧ s = bstr l := by
  obtain ⟨l, hl, rfl⟩ := bstr_any s
  exact ⟨l, ⟨hl, by rw [bstr_size] at h; exact h⟩, rfl⟩

/-- The records of a slice, one by one, put together to one list. -/
theorem cellsAt_of {α : Type} (cells : α → List Value) (k : Nat) (hk : 0 < k) (hc : ∀ x, (cells x).length = k) {A : Option Addr} {n : Nat} (f : Nat → α) (hform : 0 < n * k → ∃ b off, A = some ⟨b, off, none⟩ ∧ b < w.heap.size)
    (h : ∀ i, i < n → ∀ b off, A = some ⟨b, off, none⟩ → ∀ j, j < k → w.cell? ⟨b, off + (i * k + j), none⟩ = (cells (f i))[j]?) : CellsAt w A (((List.range n).map f).flatMap cells) := by
  by_cases h0 : n = 0
  · subst h0
    exact .inl rfl
  · obtain ⟨b, off, rfl, hb⟩ := hform (Nat.mul_pos (by omega) hk)
    refine .inr ⟨b, off, rfl, hb, fun j v hj => ?_⟩
    obtain ⟨i, q, hi, hq, rfl, hv⟩ := flat_lt hc hk hj
    rw [List.length_map, List.length_range] at hi
    rw [h i hi b off rfl q hq, ← hv]
    simp

theorem take_one {R : List Value} {o : Nat} {v : Value} (h : (R.drop o).take 1 = [v]) : R[o]? = some v := by
  have h2 := congrArg (fun l : List Value => l[0]?) h
  simpa using h2
set_option maxRecDepth 100000 in
theorem rec_int {R : List Value} {y : DataW H × List MemPlace} {m o : Nat} (h : DataW.trod enc Try.prog w 0 (fun _ => true) true m 3 ((R.drop o).take (Try.prog.cellsOf 3)) = some y) : ∃ n, R[o]? = some (.int .i64 n) ∧ Fit64 n := by
  obtain ⟨n, e, _, hw⟩ := DataW.trod_int Try.underlying3 h
  rw [show Try.prog.cellsOf 3 = 1 by kernel_rfl] at e
  exact ⟨n, take_one e, fit_of_wf hw⟩
set_option maxRecDepth 100000 in
theorem rec_bool {R : List Value} {y : DataW H × List MemPlace} {m o : Nat} (h : DataW.trod enc Try.prog w 0 (fun _ => true) true m 4 ((R.drop o).take (Try.prog.cellsOf 4)) = some y) : ∃ b, R[o]? = some (.bool b) := by
  obtain ⟨b, e, _⟩ := DataW.trod_bool Try.underlying4 h
  rw [show Try.prog.cellsOf 4 = 1 by kernel_rfl] at e
  exact ⟨b, take_one e⟩
set_option maxRecDepth 100000 in
theorem rec_text {R : List Value} {y : DataW H × List MemPlace} {m o : Nat} (h : DataW.trod enc Try.prog w 0 (fun _ => true) true m 9 ((R.drop o).take (Try.prog.cellsOf 9)) = some y) : ∃ l, R[o]? = some (.string (bstr l)) ∧ Bytes l := by
  obtain ⟨s, e, _, hs⟩ := DataW.trod_string Try.underlying9 h
  rw [show Try.prog.cellsOf 9 = 1 by kernel_rfl] at e
  obtain ⟨l, hl, rfl⟩ := bytes_of s hs
  exact ⟨l, take_one e, hl⟩
end
end Go.Proofs.Ytgenphpaidanhaa
