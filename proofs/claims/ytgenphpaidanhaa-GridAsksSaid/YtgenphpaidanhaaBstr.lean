/- Texts by their bytes: any text is one; what the run answers of s[i], s[a:b], s[a:], s[:b], s + t. Condition: the places are within; no more than 2^40 bytes. -/
import Derived.Test.YtgenphpaidanhaaBy
import Derived.Laws.DeepStrings4
import Derived.Laws.Strings3
import Derived.Laws.Concat
namespace Go.Proofs.Ytgenphpaidanhaa
open Go.RowKit Go.Deep

theorem bstr_dsize (l : List Nat) : (bstr l).data.size = l.length := bstr_size l
theorem byte_at {l : List Nat} (hb : ∀ x ∈ l, x < 256) {k c : Nat} {t : List Nat} (h : l.drop k = c :: t) (w : World) :
    (Instr.index 9 (.string (bstr l)) (.int .i64 (k : Int))).run Try.prog w = .ok (.int .u8 (c : Int)) w := by
  have hk : k < l.length := by
    rcases Nat.lt_or_ge k l.length with h1 | h1
    · exact h1
    · rw [List.drop_eq_nil_of_le h1] at h; cases h
  have hc : l[k]? = some c := by rw [← List.head?_drop, h]; rfl
  have hc2 : l[k] = c := by rw [List.getElem?_eq_getElem hk] at hc; injection hc
  have hlt := hb l[k] (List.getElem_mem hk)
  rw [run_index_string w 9 _ .i64 _ Try.underlying9, dif_pos ⟨by omega, by rw [bstr_size]; omega⟩]
  have e : ((bstr l)[(k : Int).toNat]'(by rw [bstr_size]; omega)).toNat = c := by
    have e1 : (bstr l)[(k : Int).toNat]'(by rw [bstr_size]; omega) = (bstr l).data[k]'(by rw [bstr_dsize]; exact hk) := by
      simp only [Int.toNat_natCast]
      rfl
    rw [e1]
    have e2 : (bstr l).data.toList[k]? = some (UInt8.ofNat l[k]) := by
      rw [bstr, strOfNums_data, List.map_map, List.getElem?_map, List.getElem?_eq_getElem hk]
      simp
    have e3 : (bstr l).data[k]'(by rw [bstr_dsize]; exact hk) = UInt8.ofNat l[k] := by
      have : (bstr l).data[k]? = some (UInt8.ofNat l[k]) := by rw [← Array.getElem?_toList]; exact e2
      rw [Array.getElem?_eq_getElem (by rw [bstr_dsize]; exact hk)] at this
      injection this
    rw [e3, hc2]
    rw [hc2] at hlt
    simp
    omega
  rw [e]

theorem bstr_data (l : List Nat) : (bstr l).data.toList = l.map fun x : Nat => UInt8.ofNat x := by
  rw [bstr, strOfNums_data, List.map_map]
  rfl
theorem bstr_of_data {s : ByteArray} {l : List Nat} (h : s.data.toList = l.map fun x : Nat => UInt8.ofNat x) : s = bstr l := by
  have e : s.data = (bstr l).data := Array.toList_inj.1 (by rw [h, bstr_data])
  cases s
  have e2 : bstr l = ⟨(bstr l).data⟩ := rfl
  rw [e2]
  simp only at e
  rw [e]
theorem bstr_extract (l : List Nat) (a b : Nat) : (bstr l).extract a b = bstr ((l.take b).drop a) := by
  refine bstr_of_data ?_
  rw [ByteArray.data_extract, Array.toList_extract, bstr_data, List.extract_eq_take_drop, List.map_drop, List.map_take, List.drop_take]
theorem slice_bstr (l : List Nat) (a b : Nat) (h1 : a ≤ b) (h2 : b ≤ l.length) (w : World) :
    (Instr.slice 9 (.string (bstr l)) (some (.int .i64 (a : Int))) (some (.int .i64 (b : Int))) none).run Try.prog w = .ok (.string (bstr ((l.take b).drop a))) w := by
  rw [run_slice_string_if w 9 _ .i64 .i64 _ _ Try.underlying9, if_pos ⟨by omega, by rw [bstr_size]; omega⟩, if_pos ⟨by omega, by omega⟩, Int.toNat_natCast, Int.toNat_natCast, bstr_extract]
theorem slice_bstr_to (l : List Nat) (b : Nat) (h2 : b ≤ l.length) (w : World) :
    (Instr.slice 9 (.string (bstr l)) none (some (.int .i64 (b : Int))) none).run Try.prog w = .ok (.string (bstr (l.take b))) w := by
  rw [run_slice_string_to_if w 9 _ .i64 _ Try.underlying9, if_pos ⟨by omega, by rw [bstr_size]; omega⟩, Int.toNat_natCast, bstr_extract]
  simp
theorem slice_bstr_from (l : List Nat) (a : Nat) (h2 : a ≤ l.length) (w : World) :
    (Instr.slice 9 (.string (bstr l)) (some (.int .i64 (a : Int))) none none).run Try.prog w = .ok (.string (bstr (l.drop a))) w := by
  rw [run_slice_string_from_if w 9 _ .i64 _ Try.underlying9, if_pos ⟨by omega, by rw [bstr_size]; omega⟩, Int.toNat_natCast, bstr_extract, bstr_size, List.take_length]
theorem bstr_append (a b : List Nat) : bstr a ++ bstr b = bstr (a ++ b) := by
  refine bstr_of_data ?_
  rw [ByteArray.data_append, Array.toList_append, bstr_data, bstr_data, List.map_append]
theorem add_bstr (a b : List Nat) (ha : a.length ≤ 1099511627776) (hb : b.length ≤ 1099511627776) (w : World) : (Op.stringOp .add (bstr a) (bstr b)).run Try.prog w = .ok (.string (bstr (a ++ b))) w := by
  rw [run_string_add_sum w _ _ (by rw [bstr_size, bstr_size]; omega), bstr_append]
theorem bstr_nil : bstr [] = { data := #[] } := rfl

theorem bstr_any (s : ByteArray) : ∃ l, (∀ x ∈ l, x < 256) ∧ s = bstr l := by
  refine ⟨s.data.toList.map UInt8.toNat, ?_, ?_⟩
  · intro x hx
    obtain ⟨b, _, rfl⟩ := List.mem_map.1 hx
    exact b.toNat_lt
  · refine bstr_of_data ?_
    rw [List.map_map]
    conv => lhs; rw [← List.map_id s.data.toList]
    refine List.map_congr_left fun x _ => ?_
    simp
end Go.Proofs.Ytgenphpaidanhaa
