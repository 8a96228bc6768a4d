/- OpOf, walked: an edit of a place, or none, as the document says; it is normal, and as long as it should be. Condition: what memory may hold. -/
import Derived.Test.YtgdojhccdicapaaOpAwake
import Derived.Test.YtgdojhccdicapaaOpPlain
import Derived.Test.YtgdojhccdicapaaRefCount
namespace Go.Proofs.Ytgdojhccdicapaa
open Go.RowKit Go.Deep

/-- What is so of an edit of a place. -/
structure OfFacts (base fr to : Int) (t : List Nat) (k : Nat) : Prop where
  good : ∀ y ∈ rNormal (ofParts base fr to t), y.Good
  len : (rNormal (ofParts base fr to t)).length ≤ 15
  fine : Fine1 (rNormal (ofParts base fr to t))
theorem of_texts (base fr to : Int) (t : List Nat) : tlen (ofParts base fr to t) = t.length := by
  show ([] ++ (t ++ ([] ++ ([] ++ []))) : List Nat).length = _
  simp
theorem of_good {base fr to : Int} {t : List Nat} (hbase : base ≤ 9223372036854775807) (h : ¬ OfNo base fr to t) (hb : ∀ x ∈ t, x < 256) (hl : t.length ≤ 300) : ∀ y ∈ ofParts base fr to t, y.Good := by
  have h1 : 0 ≤ fr := Classical.byContradiction fun e => h (.inl (by omega))
  have h2 : fr ≤ to := Classical.byContradiction fun e => h (.inr (.inl (by omega)))
  have h3 : to ≤ base := Classical.byContradiction fun e => h (.inr (.inr (.inl (by omega))))
  intro y hy
  have h64 : ∀ n : Int, 0 ≤ n → n ≤ base → Fit64 n := fun n h0 h1 => by unfold Fit64; omega
  rcases List.mem_cons.1 hy with rfl | hy
  · exact ⟨by unfold Fit64; simp, h64 _ (by show 0 ≤ fr; omega) (by show fr ≤ base; omega), by unfold Bytes; simp⟩
  rcases List.mem_cons.1 hy with rfl | hy
  · exact ⟨by unfold Fit64; simp, by unfold Fit64; simp, hb, (by show t.length ≤ _; unfold maxLen; omega)⟩
  rcases List.mem_cons.1 hy with rfl | hy
  · exact ⟨by unfold Fit64; simp, h64 _ (by show 0 ≤ to - fr; omega) (by show to - fr ≤ base; omega), by unfold Bytes; simp⟩
  rcases List.mem_cons.1 hy with rfl | hy
  · exact ⟨by unfold Fit64; simp, h64 _ (by show 0 ≤ base - to; omega) (by show base - to ≤ base; omega), by unfold Bytes; simp⟩
  · cases hy
theorem of_facts {base fr to : Int} {t : List Nat} (hbase : base ≤ 9223372036854775807) (h : ¬ OfNo base fr to t) (hb : ∀ x ∈ t, x < 256) (hl : t.length ≤ 300) : OfFacts base fr to t 0 := by
  have hg := norm_good _ (of_good hbase h hb hl) (by rw [of_texts]; omega)
  have hn := norm_len (ofParts base fr to t)
  have ht := tlen_norm (ofParts base fr to t)
  rw [of_texts] at ht
  exact ⟨hg, hn, fine_of hg (by omega)⟩
theorem of_sums {base fr to : Int} {t vs : List Nat} (hv : V t vs) (h1 : 0 ≤ fr) (h2 : fr ≤ to) (h3 : to ≤ base) (h4 : base ≤ 1000) (hl : t.length ≤ 300) :
    rBase (rNormal (ofParts base fr to t)) = base ∧ rOut (rNormal (ofParts base fr to t)) = base - (to - fr) + (vs.length : Int) ∧ rCheck (rNormal (ofParts base fr to t)) = 0 := by
  have hN : sumN (ofParts base fr to t) = base := by
    show max fr 0 + (max 0 0 + (max (to - fr) 0 + (max (base - to) 0 + 0))) = base
    omega
  have hB : sumB (ofParts base fr to t) = base := by
    show bOf ⟨1, fr, []⟩ + (bOf ⟨2, 0, t⟩ + (bOf ⟨3, to - fr, []⟩ + (bOf ⟨1, base - to, []⟩ + 0))) = base
    rw [bOf, if_pos (.inl rfl), bOf, if_neg (by simp), bOf, if_pos (.inr rfl), bOf, if_pos (.inl rfl)]
    simp only
    omega
  have hU : sumU (ofParts base fr to t) = base - (to - fr) + (vs.length : Int) := by
    show uOf ⟨1, fr, []⟩ + (uOf ⟨2, 0, t⟩ + (uOf ⟨3, to - fr, []⟩ + (uOf ⟨1, base - to, []⟩ + 0))) = _
    rw [uOf, if_pos rfl, uOf, if_neg (by simp), if_pos rfl, uOf, if_neg (by simp), if_neg (by simp), uOf, if_pos rfl, hv.loose]
    simp only
    omega
  have hle := hv.length_le
  have hA : AllV (ofParts base fr to t) := by
    intro y hy
    rcases List.mem_cons.1 hy with rfl | hy
    · exact ⟨[], V.nil⟩
    rcases List.mem_cons.1 hy with rfl | hy
    · exact ⟨vs, hv⟩
    rcases List.mem_cons.1 hy with rfl | hy
    · exact ⟨[], V.nil⟩
    rcases List.mem_cons.1 hy with rfl | hy
    · exact ⟨[], V.nil⟩
    · cases hy
  have e1 := norm_base (ofParts base fr to t) (by rw [hN]; omega)
  have e2 := norm_out (ofParts base fr to t) hA (by rw [hN, of_texts]; omega)
  rw [base_min (ofParts base fr to t), hB] at e1
  rw [out_min (ofParts base fr to t), hU] at e2
  have hn := norm_len (ofParts base fr to t)
  have hn2 : (ofParts base fr to t).length = 4 := rfl
  refine ⟨by omega, by omega, norm_check _ hA (by omega) (by omega) (by omega)⟩

set_option maxHeartbeats 2000000 in
set_option maxRecDepth 100000 in
theorem opOf_no (base fr to : Int) (t : List Nat) (hbase : base ≤ 9223372036854775807) (hb : ∀ x ∈ t, x < 256) (hl : t.length ≤ 300) (hno : OfNo base fr to t) (w : World) :
    Calls Try.prog 5 #[.int .i64 base, .int .i64 fr, .int .i64 to, .string (bstr t)] w fun e w' => e = .returned (.bool true) ∧ Below w.heap.size w w' := by
  have GA := Lib.hid (fun w => opAwake_any w)
  have G1 : Hid (∀ w, Calls Try.prog 25 #[.int .i64 base, .int .i64 fr, .int .i64 to, .string (bstr t)] w fun e w' => e = .returned (.tuple #[.slice none 0 0, .int .i64 1]) ∧ Below w.heap.size w w') := fun w =>
    (opOf_any base fr to t hbase hb (by omega) w).mono fun e w' h => ⟨by
      rcases h.1 with h | h
      · exact h.2
      · exact absurd hno h.1, h.2⟩
  have G2 : Hid (∀ w, Calls Try.prog 26 #[.int .i64 base, .int .i64 fr, .int .i64 to, .string (bstr t)] w fun e w' => e = .returned (.tuple #[.slice none 0 0, .int .i64 1]) ∧ Below w.heap.size w w') := fun w =>
    (refOf_any base fr to t hbase hb (by omega) w).mono fun e w' h => ⟨by
      rcases h.1 with h | h
      · exact h.2
      · exact absurd hno h.1, h.2⟩
  have GS : Hid (∀ w, Calls Try.prog 11 #[.slice none 0 0, .slice none 0 0] w fun e w' => e = .returned (.bool true) ∧ Below w.heap.size w w') := fun w => by
    have := refSame_any none none 0 0 [] [] (by simp) (by simp) (by simp) (by simp) w (.inl rfl) (.inl rfl)
    rwa [sameB_self] at this
  have hsz := bstr_size t
  clear hb hno
  go_enter Try.func5, Try.ntmps5
  go_wp2_with fail
  refine (G1.out _).mono ?_
  rintro e w1 ⟨rfl, hb1⟩
  have HB1 := Lib.hid hb1; clear hb1
  go_wp2_with fail
  refine (G2.out _).mono ?_
  rintro e w2 ⟨rfl, hb2⟩
  have HB2 : Hid (Below w.heap.size w w2) := HB1.out.trans (hb2.mono HB1.out.size)
  clear hb2
  go_wp2_with fail
  refine (GS.out _).mono ?_
  rintro e w3 ⟨rfl, hb3⟩
  have HB3 : Hid (Below w.heap.size w w3) := HB2.out.trans (hb3.mono HB2.out.size)
  clear hb3
  go_wp2_with fail
  refine (GA.out _).mono ?_
  rintro e w4 ⟨rfl, hb4⟩
  have HB4 : Hid (Below w.heap.size w w4) := HB3.out.trans (hb4.mono HB3.out.size)
  clear hb4
  go_wp2
  go_ret
  exact ⟨rfl, HB4.out⟩
set_option maxHeartbeats 4000000 in
set_option maxRecDepth 100000 in
theorem opOf_yes (base fr to : Int) (t : List Nat) (hbase : base ≤ 9223372036854775807) (hb : ∀ x ∈ t, x < 256) (hl : t.length ≤ 300) (hno : ¬ OfNo base fr to t) (w : World) :
    Calls Try.prog 5 #[.int .i64 base, .int .i64 fr, .int .i64 to, .string (bstr t)] w fun e w' => e = .returned (.bool true) ∧ Below w.heap.size w w' := by
  have GA := Lib.hid (fun w => opAwake_any w)
  obtain ⟨L, HL⟩ : ∃ x, Hid (rNormal (ofParts base fr to t) = x) := ⟨_, rfl⟩
  have G1 : Hid (∀ w, Calls Try.prog 25 #[.int .i64 base, .int .i64 fr, .int .i64 to, .string (bstr t)] w fun e w' => (∃ A c, e = .returned (.tuple #[.slice A L.length c, .int .i64 0]) ∧ CompsAt w' A L) ∧ Below w.heap.size w w') := fun w =>
    (opOf_any base fr to t hbase hb (by omega) w).mono fun e w' h => ⟨by
      rcases h.1 with h | ⟨_, A, c, h1, h2⟩
      · exact absurd h.1 hno
      · rw [HL.out] at h1 h2
        exact ⟨A, c, h1, CellsAt.of_own h2⟩, h.2⟩
  have G2 : Hid (∀ w, Calls Try.prog 26 #[.int .i64 base, .int .i64 fr, .int .i64 to, .string (bstr t)] w fun e w' => (∃ A c, e = .returned (.tuple #[.slice A L.length c, .int .i64 0]) ∧ CompsAt w' A L) ∧ Below w.heap.size w w') := fun w =>
    (refOf_any base fr to t hbase hb (by omega) w).mono fun e w' h => ⟨by
      rcases h.1 with h | ⟨_, A, c, h1, h2⟩
      · exact absurd h.1 hno
      · rw [HL.out] at h1 h2
        exact ⟨A, c, h1, CellsAt.of_own h2⟩, h.2⟩
  have hf := of_facts hbase hno hb hl
  have hgL := hf.good
  have hlL := hf.len
  have hfL := hf.fine
  rw [HL.out] at hgL hlL hfL
  clear hf
  have GS := Lib.hid (fun A1 B1 c1 d1 w h1 h2 => refSame_any A1 B1 c1 d1 L L (by unfold maxLen; omega) (by unfold maxLen; omega) hgL hgL w h1 h2)
  simp only [sameB_self] at GS
  have GC := Lib.hid (fun A c w h => opCheck_any A c L (by unfold maxLen; omega) hfL w h)
  have GB := Lib.hid (fun A c w h => opBase_any A c L (by unfold maxLen; omega) w h)
  have GO := Lib.hid (fun A c w h => opOut_any A c L (by unfold maxLen; omega) hfL w h)
  have h1 : 0 ≤ fr := Classical.byContradiction fun e => hno (.inl (by omega))
  have h2 : fr ≤ to := Classical.byContradiction fun e => hno (.inr (.inl (by omega)))
  have h3 : to ≤ base := Classical.byContradiction fun e => hno (.inr (.inr (.inl (by omega))))
  obtain ⟨vs, hv⟩ : ∃ vs, V t vs := Classical.byContradiction fun e => hno (.inr (.inr (.inr e)))
  have hsz := bstr_size t
  have GU := Lib.hid (fun w => refCount_yes hv (by omega) w)
  have hvl := hv.length_le
  clear hgL hlL hfL hno hb
  by_cases h4 : base ≤ 1000
  · obtain ⟨e1, e2, e3⟩ := of_sums hv h1 h2 h3 h4 hl
    rw [HL.out] at e1 e2 e3
    rw [e1] at GB
    rw [e2] at GO
    rw [e3] at GC
    clear e1 e2 e3 hv
    generalize vs.length = k at GO GU hvl
    go_enter Try.func5, Try.ntmps5
    go_wp2_with fail
    refine (G1.out _).mono ?_
    rintro e w1 ⟨⟨A1, c1, rfl, hc1⟩, hb1⟩
    have HC1 := Lib.hid hc1
    have HB1 := Lib.hid hb1; clear hb1 hc1
    go_wp2_with fail
    refine (G2.out _).mono ?_
    rintro e w2 ⟨⟨A2, c2, rfl, hc2⟩, hb2⟩
    have HC2 := Lib.hid hc2
    have HD2 := Lib.hid (HC1.out.below hb2)
    have HB2 : Hid (Below w.heap.size w w2) := HB1.out.trans (hb2.mono HB1.out.size)
    clear hb2 hc2
    go_wp2_with fail
    refine (GS.out _ _ _ _ _ HD2.out HC2.out).mono ?_
    rintro e w3 ⟨rfl, hb3⟩
    have HD3 := Lib.hid (HD2.out.below hb3)
    have HB3 : Hid (Below w.heap.size w w3) := HB2.out.trans (hb3.mono HB2.out.size)
    clear hb3
    go_wp2_with fail
    refine (GC.out _ _ _ HD3.out).mono ?_
    rintro e w4 ⟨rfl, hb4⟩
    have HD4 := Lib.hid (HD3.out.below hb4)
    have HB4 : Hid (Below w.heap.size w w4) := HB3.out.trans (hb4.mono HB3.out.size)
    clear hb4
    go_wp2_with fail
    refine (GB.out _ _ _ HD4.out).mono ?_
    rintro e w5 ⟨rfl, hb5⟩
    have HD5 := Lib.hid (HD4.out.below hb5)
    have HB5 : Hid (Below w.heap.size w w5) := HB4.out.trans (hb5.mono HB4.out.size)
    clear hb5
    go_wp2_with fail
    refine (GO.out _ _ _ HD5.out).mono ?_
    rintro e w6 ⟨rfl, hb6⟩
    have HB6 : Hid (Below w.heap.size w w6) := HB5.out.trans (hb6.mono HB5.out.size)
    clear hb6
    go_wp2_with fail
    refine (GU.out _).mono ?_
    rintro e w7 ⟨rfl, hb7⟩
    have HB7 : Hid (Below w.heap.size w w7) := HB6.out.trans (hb7.mono HB6.out.size)
    clear hb7
    go_wp2_with fail
    refine (GA.out _).mono ?_
    rintro e w8 ⟨rfl, hb8⟩
    have HB8 : Hid (Below w.heap.size w w8) := HB7.out.trans (hb8.mono HB7.out.size)
    clear hb8
    go_wp2
    go_ret
    exact ⟨rfl, HB8.out⟩
  · have h4' : 1000 < base := by omega
    clear h4 hv
    go_enter Try.func5, Try.ntmps5
    go_wp2_with fail
    refine (G1.out _).mono ?_
    rintro e w1 ⟨⟨A1, c1, rfl, hc1⟩, hb1⟩
    have HC1 := Lib.hid hc1
    have HB1 := Lib.hid hb1; clear hb1 hc1
    go_wp2_with fail
    refine (G2.out _).mono ?_
    rintro e w2 ⟨⟨A2, c2, rfl, hc2⟩, hb2⟩
    have HC2 := Lib.hid hc2
    have HD2 := Lib.hid (HC1.out.below hb2)
    have HB2 : Hid (Below w.heap.size w w2) := HB1.out.trans (hb2.mono HB1.out.size)
    clear hb2 hc2
    go_wp2_with fail
    refine (GS.out _ _ _ _ _ HD2.out HC2.out).mono ?_
    rintro e w3 ⟨rfl, hb3⟩
    have HB3 : Hid (Below w.heap.size w w3) := HB2.out.trans (hb3.mono HB2.out.size)
    clear hb3
    go_wp2_with fail
    refine (GA.out _).mono ?_
    rintro e w4 ⟨rfl, hb4⟩
    have HB4 : Hid (Below w.heap.size w w4) := HB3.out.trans (hb4.mono HB3.out.size)
    clear hb4
    go_wp2
    go_ret
    exact ⟨rfl, HB4.out⟩
theorem opOf_law (base fr to : Int) (t : List Nat) (hbase : base ≤ 9223372036854775807) (hb : ∀ x ∈ t, x < 256) (hm : t.length ≤ maxLen) (w : World) :
    Calls Try.prog 5 #[.int .i64 base, .int .i64 fr, .int .i64 to, .string (bstr t)] w fun e w' => e = .returned (.bool true) ∧ Below w.heap.size w w' := by
  by_cases hl : t.length ≤ 300
  · by_cases hno : OfNo base fr to t
    · exact opOf_no base fr to t hbase hb hl hno w
    · exact opOf_yes base fr to t hbase hb hl hno w
  · have GA := Lib.hid (fun w => opAwake_any w)
    have hsz := bstr_size t
    have hl' : 300 < t.length := by omega
    unfold maxLen at hm
    clear hb hl
    go_enter Try.func5, Try.ntmps5
    go_wp2_with fail
    refine (GA.out _).mono ?_
    rintro e w4 ⟨rfl, hb4⟩
    have HB4 := Lib.hid hb4
    clear hb4
    go_wp2
    go_ret
    exact ⟨rfl, HB4.out⟩
end Go.Proofs.Ytgdojhccdicapaa
