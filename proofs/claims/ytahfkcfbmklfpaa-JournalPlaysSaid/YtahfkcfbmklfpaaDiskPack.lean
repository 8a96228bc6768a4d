/- A write of the landed cache as a value: put together out of a number and a sector, laid in a row of its own, taken out of bytes. No condition. -/
import Derived.Test.YtahfkcfbmklfpaaDiskNew
import Derived.Test.YtahfkcfbmklfpaaBranch
import Derived.Great.BuildSlice
namespace Go.Proofs.Ytahfkcfbmklfpaa
open Go.RowKit Go.Deep

theorem fold_set (off : Nat) : ∀ (l : List Value) (k : Nat) (cs : Array Value), off + k + l.length ≤ cs.size → ((l.zipIdx k).foldl (fun (cs : Array Value) (p : Value × Nat) => cs.setIfInBounds (off + p.2) p.1) cs).toList = cs.toList.take (off + k) ++ l ++ cs.toList.drop (off + k + l.length)
  | [], k, cs, _ => by simp
  | v :: r, k, cs, h => by
    simp only [List.zipIdx_cons, List.foldl_cons]
    rw [fold_set off r (k + 1) _ (by simp at h ⊢; omega), Array.toList_setIfInBounds]
    have := list_seg_step cs.toList (off + k) v r (by simp at h ⊢; omega)
    rw [show off + (k + 1) = off + k + 1 by omega, this]
    rfl
theorem fill_one (place : Nat → Option (Nat × Nat)) (cells : Array Value) (i off : Nat) (v : Value) (rest : List (Nat × Value)) (hp : place i = some (off, v.cells.size)) (hs : off + v.cells.size ≤ cells.size) :
    Instr.fill place cells ((i, v) :: rest) = Instr.fill place (cells.toList.take off ++ v.cells.toList ++ cells.toList.drop (off + v.cells.size)).toArray rest := by
  have hf : (v.cells.zipIdx.foldl (fun (cs : Array Value) (p : Value × Nat) => cs.setIfInBounds (off + p.2) p.1) cells) = (cells.toList.take off ++ v.cells.toList ++ cells.toList.drop (off + v.cells.size)).toArray := by
    apply Array.toList_inj.1
    have h := fold_set off v.cells.toList 0 cells (by simpa using hs)
    simp only [Nat.add_zero, Array.length_toList] at h
    rw [← h, ← Array.foldl_toList, Array.toList_zipIdx]
  rw [Instr.fill, hp]
  simp only
  rw [if_neg (by simp; omega)]
  exact congrArg (fun c => Instr.fill place c rest) hf

theorem write_info3 : (Try.prog.info? 78).map (fun i => (i.zero, i.size, i.bytes)) = some (some (.agg (#[.int .i64 0] ++ Array.replicate 64 (.int .u8 0))), 65, 72) := by kernel_rfl
theorem write_places : (match Try.prog.underlying 78 with | some (.struct fields) => fields.toList.mapM (fun f => (Try.prog.info? f.type).map fun i => (f.offset, i.size)) | _ => none) = some [(0, 1), (1, 64)] := by kernel_rfl
theorem built_write (q : Int) (X : Array Value) (hX : X.size = 64) : Try.prog.built 78 [(0, .int .i64 q), (1, .agg X)] = some (#[.int .i64 q] ++ X) := by
  obtain ⟨i0, hi0, hz0, hz1, hz2⟩ := info_parts write_info3
  have hpl := write_places
  unfold Program.built
  rw [hi0]
  generalize Try.prog.underlying 78 = U at hpl ⊢
  match U, hpl with
  | some (.struct fields), hpl =>
    simp only [hz0] at hpl ⊢
    rw [hpl]
    simp only
    rw [fill_one _ _ 0 0 (.int .i64 q) _ rfl (by simp [Value.cells]), fill_one _ _ 1 1 (.agg X) _ (by simp [Value.cells, hX]) (by simp [Value.cells, hX])]
    simp only [Instr.fill]
    congr 1
    apply Array.toList_inj.1
    simp [Value.cells, hX]
theorem wr_toArray (q : Int) (l : List Nat) : (#[Value.int .i64 q] ++ (u8s l).toArray) = (Value.int .i64 q :: u8s l).toArray := by simp
theorem zero_write : ∃ Z : Value, Z.cells.size = 65 ∧ ∀ w, (zeroValue 78).run Try.prog w = .ok Z w := by
  obtain ⟨i0, hi0, hz0, hz1, hz2⟩ := info_parts write_info3
  exact ⟨.agg (#[.int .i64 0] ++ Array.replicate 64 (.int .u8 0)), by simp [Value.cells], fun w => by simp [zeroValue, typeInfo, hi0, hz0]⟩
theorem size_write : (Try.prog.info? 78).map (·.size) = some 65 := by
  obtain ⟨i0, hi0, hz0, hz1, hz2⟩ := info_parts write_info3
  rw [hi0, Option.map_some, hz1]
/-- A row of one write. -/
theorem wp_row_of_write {o : Oper} {a : Act} {w : World} {K : Act → World → Prop} {Q : Exit → Act → World → Prop} (x : Operand) (ho : o.op = .buildSlice 68 1 #[(0, x)]) (X : List Value) (hx : a.eval x = .agg X.toArray) (hX : X.length = 65)
    (h : K (a.put o.dst (.slice (some ⟨w.heap.size, 0, none⟩) 1 1)) (w.alloc (.cells X.toArray 78))) : o.wp Try.prog a w K Q := by
  obtain ⟨i0, hi0, hz0, hz1, hz2⟩ := info_parts write_info3
  refine wp_buildSlice 68 78 1 _ ho X.toArray i0 _ Try.underlying68 hi0 hz0 (by rw [hz1]; omega) (by rw [hz1]; omega) ?_ h
  simp only [List.map_toArray, List.map_cons, List.map_nil, hx, hz1]
  rw [fill_one _ _ 0 0 _ _ (by simp [Value.cells, hX]) (by simp [Value.cells, hX])]
  simp [Instr.fill, Value.cells, hX]
theorem bytes_range {w : World} {b off : Nat} {l : List Nat} (h : BytesAt w (some ⟨b, off, none⟩) l) : w.rangeAt b off (u8s l) := fun j v hv => by
  have := h.cells j v hv
  rwa [Go.WideShapes.add_plain] at this
end Go.Proofs.Ytahfkcfbmklfpaa
