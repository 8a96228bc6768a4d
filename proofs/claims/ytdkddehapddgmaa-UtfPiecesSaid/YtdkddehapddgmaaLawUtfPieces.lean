/- The walk of the law UtfPieces: whatever text and places it is called with, it answers true; what was there stays as it was. Condition: no text is longer than memory. -/
import Derived.Test.YtdkddehapddgmaaUtfStr
import Derived.Test.YtdkddehapddgmaaRound
namespace Go.Proofs.Ytdkddehapddgmaa
open Go.RowKit Go.Deep

set_option maxRecDepth 100000 in
theorem utfPieces_long (l : List Nat) (h : 400 < l.length) (hl : l.length ≤ maxLen) (a b c d : Int) (w : World) :
    Calls Try.prog 6 #[.string (bstr l), .int .i64 a, .int .i64 b, .int .i64 c, .int .i64 d] w fun e w' => e = .returned (.bool true) ∧ Below w.heap.size w w' := by
  have hsz := bstr_size l
  simp only [maxLen] at hl
  go_enter Try.func6, Try.ntmps6
  go_wp2_with fail
  refine (utfAwake_any _).mono ?_
  rintro e w2 ⟨rfl, hb2⟩
  go_wp2
  go_ret
  exact ⟨rfl, hb2⟩
set_option maxRecDepth 100000 in
theorem utfPieces_no (l : List Nat) (hl : ¬ 400 < l.length) (hb : ∀ x ∈ l, x < 256) (h : ¬ ∃ vs, V l vs) (a b c d : Int) (w : World) :
    Calls Try.prog 6 #[.string (bstr l), .int .i64 a, .int .i64 b, .int .i64 c, .int .i64 d] w fun e w' => e = .returned (.bool true) ∧ Below w.heap.size w w' := by
  have hsz := bstr_size l
  have G6 := Lib.hid (fun w => utfValid_no h hb (by omega) w)
  clear h hb
  go_enter Try.func6, Try.ntmps6
  go_wp2_with fail
  refine (G6.out _).mono ?_
  rintro e w1 ⟨rfl, rfl⟩
  go_wp2_with fail
  refine (utfAwake_any _).mono ?_
  rintro e w2 ⟨rfl, hb2⟩
  go_wp2
  go_ret
  exact ⟨rfl, hb2⟩

/-- A piece of a slice of ints, with both bounds: its address. -/
def addrCut (A : Option Addr) (c a : Nat) : Option Addr := if c = a then A else A.map (·.add (a * 1))
theorem elem_ints : Try.prog.elem 23 = 3 := by kernel_rfl

theorem size_int (w : World) : (sizeOf 3).run Try.prog w = .ok 1 w := by
  obtain ⟨i0, hi0, _, hz1, _⟩ := info_parts int_info
  simp [sizeOf, typeInfo, hi0, hz1]
theorem slice_ints (A : Option Addr) (n c a b : Nat) (h1 : a ≤ b) (h2 : b ≤ c) (w : World) : (Instr.slice 23 (.slice A n c) (some (.int .i64 (a : Int))) (some (.int .i64 (b : Int))) none).run Try.prog w = .ok (.slice (addrCut A c a) (b - a) (c - a)) w := by
  rw [run_slice_lh (P := Try.prog) (w := w) 23 A n c (by rw [elem_ints]; exact Try.underlying23) .i64 .i64 (a : Int) (b : Int) (by omega) (by omega) (by omega), elem_ints, size_int]
  simp [Result.andThen, sliced, addrCut]
theorem IntsAt.cut {w : World} {A : Option Addr} {l : List Int} (h : IntsAt w A l) (c a b : Nat) (hb : b ≤ l.length) (hc : l.length ≤ c) : IntsAt w (addrCut A c a) ((l.take b).drop a) := by
  unfold addrCut
  split
  · exact .inl (List.drop_eq_nil_of_le (by rw [List.length_take]; omega))
  · rcases h with rfl | ⟨g, off, rfl, hlt, hcc⟩
    · exact .inl (by simp)
    · have e : Option.map (fun x : Addr => x.add (a * 1)) (some ⟨g, off, none⟩) = some ⟨g, off + a, none⟩ := by simp [Addr.add]
      rw [e]
      exact IntsAt.drop (IntsAt.take (.inr ⟨g, off, rfl, hlt, hcc⟩) b) a
theorem nz_piece (vs : List Nat) (a b : Nat) : ((nz vs).take b).drop a = nz ((vs.take b).drop a) := by simp [nz, List.map_take, List.map_drop]
theorem piece_piece (vs : List Nat) (i j k h : Nat) (hj : i + h ≤ j) : (((vs.take j).drop i).take h).drop k = (vs.take (i + h)).drop (i + k) := by
  rw [List.take_drop, List.take_take, Nat.min_eq_left (by omega), List.drop_drop]

set_option maxHeartbeats 4000000 in
set_option maxRecDepth 100000 in
theorem utfPieces_yes (l vs : List Nat) (hl : l.length ≤ 400) (h : V l vs) (a b c d : Int) (w : World) :
    Calls Try.prog 6 #[.string (bstr l), .int .i64 a, .int .i64 b, .int .i64 c, .int .i64 d] w fun e w' => e = .returned (.bool true) ∧ Below w.heap.size w w' := by
  have hsz := bstr_size l
  have hvl := h.length_le
  have G6 := Lib.hid (fun w => utfValid_yes h (by omega) w)
  have G3 := Lib.hid (fun w => utfPoints_yes h (by omega) w)
  have GC := Lib.hid (fun w => refCount_yes h (by omega) w)
  obtain ⟨m, HM⟩ : ∃ m, Hid (m = vs.length) := ⟨_, rfl⟩
  obtain ⟨i, HI⟩ : ∃ i, Hid (i = rnd a (m + 1)) := ⟨_, rfl⟩
  have hi : i ≤ m := by have := rnd_lt a (n := m + 1) (by omega); rw [← HI.out] at this; omega
  have R1 := Lib.hid (fun w => alikeRound_any a (m + 1) (by omega) (by rw [HM.out]; omega) w)
  rw [← HI.out] at R1
  obtain ⟨m2, HM2⟩ : ∃ m2, Hid (m2 = m - i) := ⟨_, rfl⟩
  obtain ⟨r2, HR2⟩ : ∃ r, Hid (r = rnd b (m2 + 1)) := ⟨_, rfl⟩
  have hr2 : r2 ≤ m2 := by have := rnd_lt b (n := m2 + 1) (by omega); rw [← HR2.out] at this; omega
  have R2 := Lib.hid (fun w => alikeRound_any b (m2 + 1) (by omega) (by rw [HM2.out, HM.out]; omega) w)
  rw [← HR2.out] at R2
  have em2 : ((m : Int) - (i : Int)) = (m2 : Int) := by rw [HM2.out]; omega
  have hmv : m ≤ 400 := by rw [HM.out]; omega
  have hm2m : m2 ≤ m := by rw [HM2.out]; omega
  obtain ⟨j, HJ⟩ : ∃ j, Hid (j = i + r2) := ⟨_, rfl⟩
  have hij : i ≤ j := by rw [HJ.out]; omega
  have hjm : j ≤ m := by have := HM2.out; rw [HJ.out]; omega
  have hjv : j ≤ vs.length := by rw [← HM.out]; exact hjm
  have S1 := Lib.hid (fun w => utfSlice_yes h (by omega) i j hij hjv w)
  have O1 := Lib.hid (fun w => utfOffset_yes h (by omega) i (by omega) w)
  have O2 := Lib.hid (fun w => utfOffset_yes h (by omega) j hjv w)
  obtain ⟨us, HU⟩ : ∃ us, Hid ((vs.take j).drop i = us) := ⟨_, rfl⟩
  have hul : us.length = r2 := by
    rw [← HU.out, List.length_drop, List.length_take, Nat.min_eq_left hjv, HJ.out]
    omega
  have hum : ∀ v ∈ us, May v := fun v hv => h.may v (List.mem_of_mem_take (List.mem_of_mem_drop (by rw [HU.out]; exact hv)))
  have hV : V (E us) us := V.mk hum
  have hEu : (E us).length ≤ 1099511627776 := by have := E_length_le4 us; omega
  have G3u := Lib.hid (fun w => utfPoints_yes hV hEu w)
  obtain ⟨k, HK⟩ : ∃ k, Hid (k = rnd c (r2 + 1)) := ⟨_, rfl⟩
  have hk : k ≤ r2 := by have := rnd_lt c (n := r2 + 1) (by omega); rw [← HK.out] at this; omega
  have R3 := Lib.hid (fun w => alikeRound_any c (r2 + 1) (by omega) (by omega) w)
  rw [← HK.out] at R3
  obtain ⟨m4, HM4⟩ : ∃ m4, Hid (m4 = r2 - k) := ⟨_, rfl⟩
  obtain ⟨r4, HR4⟩ : ∃ r, Hid (r = rnd d (m4 + 1)) := ⟨_, rfl⟩
  have hr4 : r4 ≤ m4 := by have := rnd_lt d (n := m4 + 1) (by omega); rw [← HR4.out] at this; omega
  have R4 := Lib.hid (fun w => alikeRound_any d (m4 + 1) (by omega) (by rw [HM4.out]; omega) w)
  rw [← HR4.out] at R4
  have em4 : ((r2 : Int) - (k : Int)) = (m4 : Int) := by rw [HM4.out]; omega
  have hm4m : m4 ≤ r2 := by rw [HM4.out]; omega
  obtain ⟨t, HTT⟩ : ∃ t, Hid (t = k + r4) := ⟨_, rfl⟩
  have hkt : k ≤ t := by rw [HTT.out]; omega
  have htr : t ≤ r2 := by have := HM4.out; rw [HTT.out]; omega
  have S2 := Lib.hid (fun w => utfSlice_yes hV hEu k t hkt (by rw [hul]; exact htr) w)
  have S3 := Lib.hid (fun w => utfSlice_yes h (by omega) (i + k) (i + t) (by omega) (by have := HJ.out; omega) w)
  have hpp : ((us.take t).drop k) = (vs.take (i + t)).drop (i + k) := by
    rw [← HU.out]
    exact piece_piece vs i j k t (by have := HJ.out; omega)
  rw [hpp] at S2
  have hp12 : (E (vs.take i)).length ≤ (E (vs.take j)).length := E_len_take vs i j hij
  have hp2 : (E (vs.take j)).length ≤ l.length := by
    have := E_len_take vs j vs.length hjv
    rw [List.take_length, h.bytes] at this
    exact this
  have hsl := slice_bstr l _ _ hp12 hp2
  rw [← h.bytes, E_piece vs i j hij, h.bytes, HU.out] at hsl
  rw [HU.out] at S1
  obtain ⟨X, HX⟩ : ∃ S, Hid (bstr (E us) = S) := ⟨_, rfl⟩
  obtain ⟨Y, HY⟩ : ∃ S, Hid (bstr (E ((vs.take (i + t)).drop (i + k))) = S) := ⟨_, rfl⟩
  obtain ⟨S0, HS0⟩ : ∃ S, Hid (bstr l = S) := ⟨_, rfl⟩
  obtain ⟨p1, HP1⟩ : ∃ p, Hid ((E (vs.take i)).length = p) := ⟨_, rfl⟩
  obtain ⟨p2, HP2⟩ : ∃ p, Hid ((E (vs.take j)).length = p) := ⟨_, rfl⟩
  obtain ⟨len, HLEN⟩ : ∃ n, Hid (l.length = n) := ⟨_, rfl⟩
  obtain ⟨Z, HZ⟩ : ∃ Z, Hid (nz vs = Z) := ⟨_, rfl⟩
  obtain ⟨ZU, HZU⟩ : ∃ Z, Hid (nz us = Z) := ⟨_, rfl⟩
  have hZ : Z.length = m := by rw [← HZ.out, nz_length, HM.out]
  have hZU : ZU.length = r2 := by rw [← HZU.out, nz_length, hul]
  have HCUT : Hid ((Z.take j).drop i = ZU) := by show _ = _; rw [← HZ.out, nz_piece, HU.out, HZU.out]
  rw [HY.out] at S2 S3
  rw [HX.out] at S1 S2 G3u hsl
  rw [HS0.out] at G6 G3 GC S1 S3 O1 O2 hsl hsz ⊢
  rw [HP1.out] at O1 hsl hp12
  rw [HP2.out] at O2 hsl hp12 hp2
  rw [HLEN.out] at hl hsz hp2
  rw [HZ.out, hZ] at G3
  rw [HZU.out, hZU] at G3u
  rw [← HM.out] at GC
  have hyy : (Y.toList == Y.toList) = true := beq_self_eq_true _
  have hxx : (X.toList == X.toList) = true := beq_self_eq_true _
  have hmm : ((m : Int) == (m : Int)) = true := beq_self_eq_true _
  have eij : ((i : Int) + (r2 : Int)) = (j : Int) := by rw [HJ.out]; omega
  have ekt : ((k : Int) + (r4 : Int)) = (t : Int) := by rw [HTT.out]; omega
  have eji : j - i = r2 := by rw [HJ.out]; omega
  have HCE := Lib.hid eji
  clear h hV hum hul hpp hvl hjv eji
  go_enter Try.func6, Try.ntmps6
  go_wp2_with fail
  refine (G6.out _).mono ?_
  rintro e w1 ⟨rfl, rfl⟩
  go_wp2_with fail
  refine (G3.out _).mono ?_
  rintro e w1 ⟨A1, c1, rfl, hc1, _, hat1, hb1⟩
  have HAT1 := Lib.hid hat1; clear hat1
  have HB1 := Lib.hid hb1; clear hb1
  go_wp2_with fail
  refine (GC.out _).mono ?_
  rintro e w2 ⟨rfl, hb2⟩
  have HB2 := Lib.hid hb2; clear hb2
  have hcut := slice_ints A1 m c1 i j hij (by omega)
  rw [HCE.out] at hcut
  go_wp2_with fail
  refine (R1.out _).mono ?_
  rintro e w3 ⟨rfl, rfl⟩
  go_wp2_with fail
  refine (R2.out _).mono ?_
  rintro e w3 ⟨rfl, rfl⟩
  go_wp2_with fail
  refine (S1.out _).mono ?_
  rintro e w3 ⟨rfl, hb3⟩
  have HB3 := Lib.hid hb3; clear hb3
  go_wp2_with fail
  refine (G3u.out _).mono ?_
  rintro e w4 ⟨A4, c4, rfl, _, _, hat4, hb4⟩
  have HAT4 := Lib.hid hat4; clear hat4
  have HB4 := Lib.hid hb4; clear hb4
  have HI1 := Lib.hid (alikeInts_same (l := ZU) (A := A4) (B := addrCut A1 c1 i) c4 (c1 - i) (by rw [hZU]; simp only [maxLen]; omega) w4 HAT4.out (by
    have h1 := ((((HAT1.out.below HB2.out).below HB3.out).below HB4.out)).cut c1 i j (by rw [hZ]; exact hjm) (by rw [hZ]; exact hc1)
    rw [HCUT.out] at h1
    exact h1))
  rw [hZU] at HI1
  go_wp2_with fail
  refine HI1.out.mono ?_
  rintro e w5 ⟨rfl, hb5⟩
  have HB5 := Lib.hid hb5; clear hb5
  go_wp2_with fail
  refine (R3.out _).mono ?_
  rintro e w6 ⟨rfl, rfl⟩
  go_wp2_with fail
  refine (R4.out _).mono ?_
  rintro e w6 ⟨rfl, rfl⟩
  go_wp2_with fail
  refine (S2.out _).mono ?_
  rintro e w6 ⟨rfl, hb6⟩
  have HB6 := Lib.hid hb6; clear hb6
  go_wp2_with fail
  refine (S3.out _).mono ?_
  rintro e w7 ⟨rfl, hb7⟩
  have HB7 := Lib.hid hb7; clear hb7
  go_wp2_with fail
  refine (O1.out _).mono ?_
  rintro e w8 ⟨rfl, hb8⟩
  have HB8 := Lib.hid hb8; clear hb8
  go_wp2_with fail
  refine (O2.out _).mono ?_
  rintro e w9 ⟨rfl, hb9⟩
  have HB9 := Lib.hid hb9; clear hb9
  go_wp2_with fail
  refine (utfAwake_any _).mono ?_
  rintro e w10 ⟨rfl, hb10⟩
  go_wp2
  go_ret
  exact ⟨rfl, bstep (bstep (bstep (bstep (bstep (bstep (bstep (bstep (bstep HB1.out HB2.out) HB3.out) HB4.out) HB5.out) HB6.out) HB7.out) HB8.out) HB9.out) hb10⟩

theorem utfPieces_any (l : List Nat) (hb : ∀ x ∈ l, x < 256) (hl : l.length ≤ maxLen) (a b c d : Int) (w : World) :
    Calls Try.prog 6 #[.string (bstr l), .int .i64 a, .int .i64 b, .int .i64 c, .int .i64 d] w fun e w' => e = .returned (.bool true) ∧ Below w.heap.size w w' := by
  by_cases h400 : 400 < l.length
  · exact utfPieces_long l h400 hl a b c d w
  by_cases hv : ∃ vs, V l vs
  · obtain ⟨vs, hv⟩ := hv
    exact utfPieces_yes l vs (by omega) hv a b c d w
  · exact utfPieces_no l h400 hb hv a b c d w
end Go.Proofs.Ytdkddehapddgmaa
