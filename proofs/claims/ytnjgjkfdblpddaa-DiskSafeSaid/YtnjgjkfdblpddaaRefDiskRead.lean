/- The document's own disk: the contract of Read. Condition: fewer than 2^20 writes in the cache. -/
import Derived.Test.YtnjgjkfdblpddaaRefDiskWrite
import Derived.Test.YtnjgjkfdblpddaaConv
namespace Go.Proofs.Ytnjgjkfdblpddaa
open Go.RowKit Go.Deep

/-- What stands in a sector, the cache's writes over it. -/
def over (q : Nat) (cache : List (Nat × List Nat)) (b : Option (List Nat)) : Option (List Nat) := cache.foldl (fun b p => if p.1 = q then some p.2 else b) b
theorem over_take (q : Nat) (cache : List (Nat × List Nat)) (b : Option (List Nat)) (k : Nat) (h : k < cache.length) : over q (cache.take (k + 1)) b = if cache[k].1 = q then some cache[k].2 else over q (cache.take k) b := by
  rw [over, List.take_succ_eq_append_getElem h, List.foldl_append]
  rfl
def noughts : List Nat := List.replicate 64 0
def secB (o : Option (List Nat)) : List Nat := o.getD noughts
def DiskD.look (D : DiskD) (q : Nat) : Option (List Nat) := over q D.cache (D.safe[q]?.getD none)
/-- What Read tells: none and an error, or a sector's bytes. -/
def ReadEnd (D : DiskD) (at_ : Int) (w : World) (e : Ending) (w' : World) : Prop :=
  ((at_ < 0 ∨ (D.safe.length : Int) ≤ at_) ∧ e = .returned (.tuple #[.slice none 0 0, .int .i64 1]) ∧ w = w') ∨
  ∃ (q : Nat) (A : Option Addr) (c : Nat), at_ = (q : Int) ∧ q < D.safe.length ∧ e = .returned (.tuple #[.slice A (secB (D.look q)).length c, .int .i64 0]) ∧ BytesAt w' A (secB (D.look q)) ∧ Below w.heap.size w w'
theorem rec_cells {w : World} {b off : Nat} {rs : List (Nat × Value)} (h : CellsAt w (some ⟨b, off, none⟩) (rs.flatMap recCells)) {i : Nat} {r : Nat × Value} (hi : rs[i]? = some r) :
    w.cell? ⟨b, off + i * 2, none⟩ = some (.int .i64 (r.1 : Int)) ∧ w.cell? ⟨b, off + i * 2 + 1, none⟩ = some r.2 := by
  obtain ⟨hl, rfl⟩ := List.getElem?_eq_some_iff.1 hi
  refine ⟨?_, ?_⟩
  · exact CellsAt.cell h (j := i * 2 + 0) (by rw [flat_get recCells 2 recCells_length rs i hl 0 (by omega)]; rfl)
  · rw [Nat.add_assoc]; exact CellsAt.cell h (by rw [flat_get recCells 2 recCells_length rs i hl 1 (by omega)]; rfl)
theorem CellsAt.form' {w : World} {A : Option Addr} {l : List Value} (h : CellsAt w A l) (h0 : 0 < l.length) : ∃ b off, A = some ⟨b, off, none⟩ ∧ b < w.heap.size := h.form (by intro e; rw [e] at h0; simp at h0)

set_option maxHeartbeats 2000000 in
set_option maxRecDepth 100000 in
theorem refDiskRead_any (F : Nat → Prop) (g : Nat) (D : DiskD) (hc : D.cache.length ≤ 1048576) (hs : D.safe.length ≤ 1048576) (at_ : Int) (w : World) (h : DiskAt F g D w) :
    Calls Try.prog 28 #[.pointer (some ⟨g, 0, none⟩), .int .i64 at_] w (ReadEnd D at_ w) := by
  obtain ⟨_, _, sA, sc, cA, cc, vs, rs, hr, hcs, hms, hcc, hmc⟩ := h
  have c0 : w.cell? ⟨g, 0, none⟩ = some (.slice sA D.safe.length sc) := (hr.cell (i := 0) (by omega)).trans rfl
  have c1 : w.cell? ⟨g, 1, none⟩ = some (.slice cA D.cache.length cc) := (hr.cell (i := 1) (by omega)).trans rfl
  have HCS := Lib.hid hcs; have HMS := Lib.hid hms; have HCC := Lib.hid hcc; have HMC := Lib.hid hmc
  clear hr hcs hms hcc hmc
  by_cases h1 : at_ < 0
  · go_enter Try.func28, Try.ntmps28
    go_wp2
    go_ret2
    exact .inl ⟨.inl h1, rfl, rfl⟩
  obtain ⟨q, rfl⟩ : ∃ q : Nat, at_ = (q : Int) := ⟨at_.toNat, by omega⟩
  by_cases h2 : D.safe.length ≤ q
  · go_enter Try.func28, Try.ntmps28
    go_wp2
    go_ret2
    exact .inl ⟨.inr (by omega), rfl, rfl⟩
  have hq : q < D.safe.length := by omega
  obtain ⟨v0, hv0, hsv⟩ := HMS.out.get hq
  obtain ⟨sb, so, rfl, _⟩ := HCS.out.at_.form' (by rw [HMS.out.1]; omega)
  have s0 : w.cell? ⟨sb, so + q, none⟩ = some v0 := CellsAt.cell HCS.out.at_ hv0
  have HSV : Hid (SecV F w v0 (D.safe[q]?.getD none)) := by show SecV F w v0 _; rw [List.getElem?_eq_getElem hq]; exact hsv
  clear hv0 hsv
  have hqn := fun (A : Option Addr) (n c : Nat) (w : World) => eql_bytes_nil A n c w
  have hmk : ∀ w : World, (Instr.makeSlice 41 (.int .i64 64) (.int .i64 64)).run Try.prog w = .ok (.slice (some ⟨w.heap.size, 0, none⟩) 64 64) (w.alloc (.cells (madeCells #[.int .u8 0] 64) 5)) := run_make_row' (P := Try.prog) 41 5 (.int .u8 0) 1 Try.underlying41 u8_info rfl .i64 .i64 64 (by omega) (by omega)
  go_enter Try.func28, Try.ntmps28
  go_wp2
  go_loopw [6, 7] (fun v i wr => wr = w ∧ ∃ k : Nat, k ≤ D.cache.length ∧ i = .int .i64 k ∧ SecV F w v (over q (D.cache.take k) (D.safe[q]?.getD none))) (fun _ i _ => D.cache.length - (intOf i).toNat)
  case atStart => exact ⟨rfl, 0, Nat.zero_le _, rfl, HSV.out⟩
  case round =>
    obtain ⟨rfl, k, hk, rfl, hv⟩ := hrel
    have HV := Lib.hid hv; clear hv
    by_cases hlt : k < D.cache.length
    · obtain ⟨r, hrk, hr1, hr2⟩ := HMC.out.get hlt
      obtain ⟨cb, co, rfl, _⟩ := HCC.out.at_.form' (by rw [flat_length recCells 2 recCells_length, HMC.out.1]; omega)
      obtain ⟨q0, q1⟩ := rec_cells HCC.out.at_ hrk
      have HOV := Lib.hid (over_take q D.cache (D.safe[q]?.getD none) k hlt)
      have HR2 := Lib.hid hr2; clear hr2
      obtain ⟨r1, r2⟩ := r
      simp only at hr1 q0 q1 HR2
      have HR1 := Lib.hid hr1; clear hr1
      by_cases he : r1 = q
      · subst he
        go_wp2
        go_roundw
        case rel => exact ⟨trivial, k + 1, by omega, by go_num, by rw [HOV.out, if_pos HR1.out.symm]; exact HR2.out⟩
        case measure => simp [intOf]; omega
      · have he' : ((r1 : Int) == (q : Int)) = false := beq_eq_false_iff_ne.2 (by omega)
        have HNE : Hid (¬ D.cache[k].1 = q) := by rw [← HR1.out]; exact he
        clear he
        go_wp2
        go_roundw
        case rel => exact ⟨trivial, k + 1, by omega, by go_num, by rw [HOV.out, if_neg HNE.out]; exact HV.out⟩
        case measure => simp [intOf]; omega
    · obtain rfl : k = D.cache.length := by omega
      rw [List.take_length] at HV
      rcases HV.out with ⟨ho, rfl⟩ | ⟨l, b, off, c, ho, rfl, hat, _, hl64, _, _⟩
      · have HO := Lib.hid ho; clear ho
        go_wp2
        go_ret2
        have hrow := World.rowIs_made wr (.int .u8 0) 64 5
        refine .inr ⟨q, some ⟨wr.heap.size, 0, none⟩, 64, rfl, hq, ?_, ?_, (Below.refl _ _).alloc (Nat.le_refl _) _⟩
        · rw [DiskD.look, HO.out]; rfl
        · rw [DiskD.look, HO.out]
          refine .inr ⟨wr.heap.size, 0, rfl, hrow.lt, fun j c hj => ?_⟩
          have hj64 : j < 64 := by have := (List.getElem?_eq_some_iff.1 hj).1; simpa [secB, noughts] using this
          rw [Nat.zero_add, hrow.cell hj64]
          have hc0 : (noughts)[j]? = some c := hj
          rw [noughts, List.getElem?_replicate, if_pos hj64] at hc0
          injection hc0 with hc0
          rw [← hc0]; rfl
      · have HO := Lib.hid ho; have HAT := Lib.hid hat; clear ho hat
        have HL := Lib.hid hl64; clear hl64
        go_wp2
        go_ret2
        refine .inr ⟨q, some ⟨b, off, none⟩, c, rfl, hq, ?_, ?_, Below.refl _ _⟩
        · rw [DiskD.look, HO.out]; rfl
        · rw [DiskD.look, HO.out]; exact HAT.out
end Go.Proofs.Ytnjgjkfdblpddaa
