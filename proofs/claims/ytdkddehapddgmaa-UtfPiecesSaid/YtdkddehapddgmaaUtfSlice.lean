/- The contracts of utf.Offset and utf.Slice, over any bytes, texts or not, and any places. Condition: no more than 2^40 bytes. -/
import Derived.Test.YtdkddehapddgmaaUtfFuns
import Derived.Laws.DeepStrings4
namespace Go.Proofs.Ytdkddehapddgmaa
open Go.RowKit Go.Deep

theorem utfOffset_walk (l : List Nat) (hb : ∀ x ∈ l, x < 256) (hl : l.length ≤ 1099511627776) (n : Int) (w : World) :
    Calls Try.prog 22 #[.string (bstr l), .func (.func 26) #[] #[.pointer (some ⟨w.heap.size + 1, 0, none⟩), .pointer (some ⟨w.heap.size, 0, none⟩), .pointer (some ⟨w.heap.size + 1 + 1, 0, none⟩)]]
      (((w.alloc (.cells #[.int .i64 n] 3)).alloc (.cells #[.int .i64 0] 3)).alloc (.cells #[.int .i64 0] 3)) fun e w' =>
      (∃ vs, V l vs ∧ e = .returned (.bool true) ∧ OffInv w w.heap.size n vs w') ∨ ((¬ ∃ vs, V l vs) ∧ e = .returned (.bool false) ∧ ∃ vs, OffInv w w.heap.size n vs w') :=
  utfWalk_any 26 (enters_of_func Try.func26 (by kernel_rfl) rfl) _ l hl hb (OffInv w w.heap.size n)
    (fun vs v w1 h hm he => show_offset w _ n vs v w1 h (by have := E_length_le (vs ++ [v]); simp at this; omega)) _ (OffInv.start w n)
theorem hmf_any : ∀ (fn : Fn) (first cap : Array Value) (w : World), (Instr.makeFunc fn first cap).run Try.prog w = .ok (.func fn first cap) w := fun _ _ _ _ => rfl

theorem utfOffset_yes {l vs : List Nat} (h : V l vs) (hl : l.length ≤ 1099511627776) (n : Nat) (hn : n ≤ vs.length) (w : World) :
    Calls Try.prog 12 #[.string (bstr l), .int .i64 (n : Int)] w fun e w' => e = .returned (.tuple #[.int .i64 (((E (vs.take n)).length : Nat) : Int), .int .i64 0]) ∧ Below w.heap.size w w' := by
  have HW := Lib.hid (utfOffset_walk l (by rw [← h.bytes]; exact E_lt h.may) hl n w)
  have hmf := hmf_any
  have H := Lib.hid h; clear h
  have HL : Hid (vs.length ≤ 1099511627776) := by show vs.length ≤ _; have := H.out.length_le; omega
  clear hl
  go_enter Try.func12, Try.ntmps12
  go_wp2_with fail
  refine HW.out.mono ?_
  rintro e w' (⟨ws, hv, rfl, h1, h2, h3, hbel⟩ | ⟨hn, _, _⟩)
  · obtain rfl := hv.uniq H.out
    have c1 := h1.cell (i := 0) (by omega)
    have c2 := h2.cell (i := 0) (by omega)
    have c3 := h3.cell (i := 0) (by omega)
    rw [Int.toNat_natCast] at c3
    have hl := HL.out
    clear h1 h2 h3 hv
    go_wp2
    go_ret2
    exact ⟨rfl, hbel⟩
  · exact absurd ⟨vs, H.out⟩ hn
theorem utfOffset_arg {l vs : List Nat} (h : V l vs) (hl : l.length ≤ 1099511627776) (n : Int) (hn : n < 0 ∨ (vs.length : Int) < n) (w : World) :
    Calls Try.prog 12 #[.string (bstr l), .int .i64 n] w fun e w' => e = .returned (.tuple #[.int .i64 0, .int .i64 1]) ∧ Below w.heap.size w w' := by
  have HW := Lib.hid (utfOffset_walk l (by rw [← h.bytes]; exact E_lt h.may) hl n w)
  have hmf := hmf_any
  have H := Lib.hid h; clear h
  have HL : Hid (vs.length ≤ 1099511627776) := by show vs.length ≤ _; have := H.out.length_le; omega
  clear hl
  have HN := Lib.hid hn; clear hn
  rcases HN.out with hn | hn
  all_goals
    go_enter Try.func12, Try.ntmps12
    go_wp2_with fail
    refine HW.out.mono ?_
    rintro e w' (⟨ws, hv, rfl, h1, h2, h3, hbel⟩ | ⟨hn, _, _⟩)
    · obtain rfl := hv.uniq H.out
      have c1 := h1.cell (i := 0) (by omega)
      have c2 := h2.cell (i := 0) (by omega)
      have hl := HL.out
      clear h1 h2 h3 hv
      try have hn0 : ¬ n < 0 := by omega
      go_wp2
      go_ret2
      exact ⟨rfl, hbel⟩
    · exact absurd ⟨vs, H.out⟩ hn
theorem utfOffset_no {l : List Nat} (h : ¬ ∃ vs, V l vs) (hb : ∀ x ∈ l, x < 256) (hl : l.length ≤ 1099511627776) (n : Int) (w : World) :
    Calls Try.prog 12 #[.string (bstr l), .int .i64 n] w fun e w' => e = .returned (.tuple #[.int .i64 0, .int .i64 2]) ∧ Below w.heap.size w w' := by
  have HW := Lib.hid (utfOffset_walk l hb hl n w)
  have hmf := hmf_any
  have H := Lib.hid h; clear h
  go_enter Try.func12, Try.ntmps12
  go_wp2_with fail
  refine HW.out.mono ?_
  rintro e w' (⟨ws, hv, _⟩ | ⟨hn, rfl, ws, h1, h2, h3, hbel⟩)
  · exact absurd ⟨ws, hv⟩ H.out
  · clear h1 h2 h3 hn
    go_wp2
    go_ret2
    exact ⟨rfl, hbel⟩

/-! ### Slice -/
theorem bstr_data (l : List Nat) : (bstr l).data.toList = l.map fun x : Nat => UInt8.ofNat x := by
  rw [bstr, strOfNums_data, List.map_map]
  rfl
theorem bstr_of_data {s : ByteArray} {l : List Nat} (h : s.data.toList = l.map fun x : Nat => UInt8.ofNat x) : s = bstr l := by
  have e : s.data = (bstr l).data := Array.toList_inj.1 (by rw [h, bstr_data])
  cases s
  have e2 : bstr l = ⟨(bstr l).data⟩ := rfl
  rw [e2]
  simp only at e
  rw [e]
theorem bstr_extract (l : List Nat) (a b : Nat) : (bstr l).extract a b = bstr ((l.take b).drop a) := by
  refine bstr_of_data ?_
  rw [ByteArray.data_extract, Array.toList_extract, bstr_data, List.extract_eq_take_drop, List.map_drop, List.map_take, List.drop_take]
theorem slice_bstr (l : List Nat) (a b : Nat) (h1 : a ≤ b) (h2 : b ≤ l.length) (w : World) :
    (Instr.slice 9 (.string (bstr l)) (some (.int .i64 (a : Int))) (some (.int .i64 (b : Int))) none).run Try.prog w = .ok (.string (bstr ((l.take b).drop a))) w := by
  rw [run_slice_string_if w 9 _ .i64 .i64 _ _ Try.underlying9, if_pos ⟨by omega, by rw [bstr_size]; omega⟩, if_pos ⟨by omega, by omega⟩, Int.toNat_natCast, Int.toNat_natCast, bstr_extract]

theorem stringsClone_any (s : ByteArray) (w : World) (hlim : s.size ≤ 281474976710656) :
    Calls Try.prog 25 #[.string s] w fun e w' => e = .returned (.string s) ∧ Below w.heap.size w w' := by
  have HC := Lib.hid (Try.stringslite_Clone s w hlim)
  go_enter Try.func25, Try.ntmps25
  go_wp2_with fail
  refine HC.out.mono ?_
  rintro e w' ⟨rfl, hbel⟩
  go_wp2
  go_ret
  exact ⟨rfl, hbel⟩

theorem utfSlice_yes {l vs : List Nat} (h : V l vs) (hl : l.length ≤ 1099511627776) (a b : Nat) (hab : a ≤ b) (hb : b ≤ vs.length) (w : World) :
    Calls Try.prog 11 #[.string (bstr l), .int .i64 (a : Int), .int .i64 (b : Int)] w fun e w' => e = .returned (.tuple #[.string (bstr (E ((vs.take b).drop a))), .int .i64 0]) ∧ Below w.heap.size w w' := by
  have G1 := Lib.hid (fun w => utfOffset_yes h hl a (by omega) w)
  have G2 := Lib.hid (fun w => utfOffset_yes h hl b hb w)
  have h1 : (E (vs.take a)).length ≤ (E (vs.take b)).length := E_len_take vs a b hab
  have h2 : (E (vs.take b)).length ≤ l.length := by
    have := E_len_take vs b vs.length hb
    rw [List.take_length, h.bytes] at this
    exact this
  have hs := slice_bstr l _ _ h1 h2
  rw [← h.bytes, E_piece vs a b hab, h.bytes] at hs
  have HC := Lib.hid (fun w => stringsClone_any (bstr (E ((vs.take b).drop a))) w (by
    rw [bstr_size, ← E_piece vs a b hab, List.length_drop, List.length_take, h.bytes]
    omega))
  have HL : Hid (vs.length ≤ 1099511627776) := by show vs.length ≤ _; have := h.length_le; omega
  have hl2 := HL.out
  obtain ⟨p, HP⟩ : ∃ p, Hid ((E (vs.take a)).length = p) := ⟨_, rfl⟩
  obtain ⟨q, HQ⟩ : ∃ q, Hid ((E (vs.take b)).length = q) := ⟨_, rfl⟩
  rw [HP.out] at G1 hs h1
  rw [HQ.out] at G2 hs h2 h1
  clear h
  go_enter Try.func11, Try.ntmps11
  go_wp2_with fail
  refine (G1.out _).mono ?_
  rintro e w1 ⟨rfl, hb1⟩
  have HB1 := Lib.hid hb1; clear hb1
  go_wp2_with fail
  refine (G2.out _).mono ?_
  rintro e w2 ⟨rfl, hb2⟩
  have HB2 := Lib.hid hb2; clear hb2
  go_wp2_with fail
  refine (HC.out _).mono ?_
  rintro e w3 ⟨rfl, hb3⟩
  go_wp2
  go_ret2
  exact ⟨rfl, bstep (bstep HB1.out HB2.out) hb3⟩
theorem utfSlice_no {l : List Nat} (h : ¬ ∃ vs, V l vs) (hb : ∀ x ∈ l, x < 256) (hl : l.length ≤ 1099511627776) (a b : Int) (w : World) :
    Calls Try.prog 11 #[.string (bstr l), .int .i64 a, .int .i64 b] w fun e w' => e = .returned (.tuple #[.string (bstr []), .int .i64 2]) ∧ Below w.heap.size w w' := by
  have G1 := Lib.hid (fun w => utfOffset_no h hb hl a w)
  clear h hb
  go_enter Try.func11, Try.ntmps11
  go_wp2_with fail
  refine (G1.out _).mono ?_
  rintro e w1 ⟨rfl, hb1⟩
  go_wp2
  go_ret2
  exact ⟨rfl, hb1⟩
theorem utfSlice_arg {l vs : List Nat} (h : V l vs) (hl : l.length ≤ 1099511627776) (a b : Int) (hab : a < 0 ∨ b < a ∨ (vs.length : Int) < b) (w : World) :
    Calls Try.prog 11 #[.string (bstr l), .int .i64 a, .int .i64 b] w fun e w' => e = .returned (.tuple #[.string (bstr []), .int .i64 1]) ∧ Below w.heap.size w w' := by
  have HL : Hid (vs.length ≤ 1099511627776) := by show vs.length ≤ _; have := h.length_le; omega
  have hl2 := HL.out
  by_cases ha : a < 0 ∨ (vs.length : Int) < a
  · have G1 := Lib.hid (fun w => utfOffset_arg h hl a ha w)
    clear h ha hab
    go_enter Try.func11, Try.ntmps11
    go_wp2_with fail
    refine (G1.out _).mono ?_
    rintro e w1 ⟨rfl, hb1⟩
    go_wp2
    go_ret2
    exact ⟨rfl, hb1⟩
  · obtain ⟨a, rfl⟩ := Int.eq_ofNat_of_zero_le (show 0 ≤ a by omega)
    have G1 := Lib.hid (fun w => utfOffset_yes h hl a (by omega) w)
    obtain ⟨p, HP⟩ : ∃ p, Hid ((E (vs.take a)).length = p) := ⟨_, rfl⟩
    rw [HP.out] at G1
    by_cases hb : b < 0 ∨ (vs.length : Int) < b
    · have G2 := Lib.hid (fun w => utfOffset_arg h hl b hb w)
      clear h ha hab hb
      go_enter Try.func11, Try.ntmps11
      go_wp2_with fail
      refine (G1.out _).mono ?_
      rintro e w1 ⟨rfl, hb1⟩
      have HB1 := Lib.hid hb1; clear hb1
      go_wp2_with fail
      refine (G2.out _).mono ?_
      rintro e w2 ⟨rfl, hb2⟩
      go_wp2
      go_ret2
      exact ⟨rfl, bstep HB1.out hb2⟩
    · obtain ⟨b, rfl⟩ := Int.eq_ofNat_of_zero_le (show 0 ≤ b by omega)
      have G2 := Lib.hid (fun w => utfOffset_yes h hl b (by omega) w)
      obtain ⟨q, HQ⟩ : ∃ q, Hid ((E (vs.take b)).length = q) := ⟨_, rfl⟩
      rw [HQ.out] at G2
      have hba : b < a := by omega
      clear h ha hab hb
      go_enter Try.func11, Try.ntmps11
      go_wp2_with fail
      refine (G1.out _).mono ?_
      rintro e w1 ⟨rfl, hb1⟩
      have HB1 := Lib.hid hb1; clear hb1
      go_wp2_with fail
      refine (G2.out _).mono ?_
      rintro e w2 ⟨rfl, hb2⟩
      go_wp2
      go_ret2
      exact ⟨rfl, bstep HB1.out hb2⟩
end Go.Proofs.Ytdkddehapddgmaa
