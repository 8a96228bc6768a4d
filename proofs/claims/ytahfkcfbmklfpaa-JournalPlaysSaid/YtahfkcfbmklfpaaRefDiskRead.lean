/- The document's own disk: the contract of Read. Condition: fewer than 2^20 writes in the cache. -/
import Derived.Test.YtahfkcfbmklfpaaRefDiskWrite
import Derived.Test.YtahfkcfbmklfpaaConv
namespace Go.Proofs.Ytahfkcfbmklfpaa
open Go.RowKit Go.Deep

/-- What stands in a sector, the cache's writes over it. -/
def over (q : Nat) (cache : List (Nat × List Nat)) (b : Option (List Nat)) : Option (List Nat) := cache.foldl (fun b p => if p.1 = q then some p.2 else b) b
theorem over_take (q : Nat) (cache : List (Nat × List Nat)) (b : Option (List Nat)) (k : Nat) (h : k < cache.length) : over q (cache.take (k + 1)) b = if cache[k].1 = q then some cache[k].2 else over q (cache.take k) b := by
  rw [over, List.take_succ_eq_append_getElem h, List.foldl_append]
  rfl
def noughts : List Nat := List.replicate 64 0
def secB (o : Option (List Nat)) : List Nat := o.getD noughts
def DiskD.look (D : DiskD) (q : Nat) : Option (List Nat) := over q D.cache (D.safe[q]?.getD none)
/-- What Read tells: none and an error, or a sector's bytes. -/
def ReadEnd (D : DiskD) (at_ : Int) (w : World) (e : Ending) (w' : World) : Prop :=
  ((at_ < 0 ∨ (D.safe.length : Int) ≤ at_) ∧ e = .returned (.tuple #[.slice none 0 0, .int .i64 1]) ∧ w = w') ∨
  ∃ (q : Nat) (A : Option Addr) (c : Nat), at_ = (q : Int) ∧ q < D.safe.length ∧ e = .returned (.tuple #[.slice A (secB (D.look q)).length c, .int .i64 0]) ∧ BytesAt w' A (secB (D.look q)) ∧ Below w.heap.size w w'
theorem rec_cells {w : World} {b off : Nat} {rs : List (Nat × Value)} (h : CellsAt w (some ⟨b, off, none⟩) (rs.flatMap recCells)) {i : Nat} {r : Nat × Value} (hi : rs[i]? = some r) :
    w.cell? ⟨b, off + i * 2, none⟩ = some (.int .i64 (r.1 : Int)) ∧ w.cell? ⟨b, off + i * 2 + 1, none⟩ = some r.2 := by
  obtain ⟨hl, rfl⟩ := List.getElem?_eq_some_iff.1 hi
  refine ⟨?_, ?_⟩
  · exact CellsAt.cell h (j := i * 2 + 0) (by rw [flat_get recCells 2 recCells_length rs i hl 0 (by omega)]; rfl)
  · rw [Nat.add_assoc]; exact CellsAt.cell h (by rw [flat_get recCells 2 recCells_length rs i hl 1 (by omega)]; rfl)
theorem CellsAt.form' {w : World} {A : Option Addr} {l : List Value} (h : CellsAt w A l) (h0 : 0 < l.length) : ∃ b off, A = some ⟨b, off, none⟩ ∧ b < w.heap.size := h.form (by intro e; rw [e] at h0; simp at h0)

end Go.Proofs.Ytahfkcfbmklfpaa
