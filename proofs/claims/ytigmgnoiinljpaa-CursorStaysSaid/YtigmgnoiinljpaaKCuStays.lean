/- What lies ahead of all that an edit changes stays where it was, and what lies behind it goes by as much as the text grew: it answers true and changes nothing. No condition. (Merged of 2 texts.) -/
import Derived.Test.YtigmgnoiinljpaaKCa
import Derived.Test.YtigmgnoiinljpaaKAl
import Derived.ChangeMaps5
/- CursorStays, walked: what lies ahead of all that an edit changes stays; what lies behind it goes by as much as the text grew. Condition: what memory may hold. -/
namespace Go.Proofs.Ytigmgnoiinljpaa
open Go.RowKit Go.Deep Ieee
attribute [-go_sem] binOp_float_cmp_eql binOp_float_cmp_neq binOp_float_cmp_lss binOp_float_cmp_leq binOp_float_cmp_gtr binOp_float_cmp_geq run_eql_complex run_neq_complex
attribute [local irreducible] floatOfInt

/-- The contract of Of of the landed program, at an edit of a place whose text is valid. -/
theorem stays_of {N F T : Nat} {t vs : List Nat} (hv : V t vs) (h1 : F ≤ T) (h2 : T ≤ N) (h3 : N ≤ 500) (hl : t.length ≤ 300) :
    ∃ L : List CompV, (∀ w, Calls Try.prog 21 #[.int .i64 (N : Int), .int .i64 (F : Int), .int .i64 (T : Int), .string (bstr t)] w fun e w' => (∃ A c, e = .returned (.tuple #[.slice A L.length c, .int .i64 0]) ∧ CompsC w' A c L) ∧ Below w.heap.size w w') ∧
      rCheck L = 0 ∧ rBase L = N ∧ rOut L = (N : Int) - ((T : Int) - F) + (vs.length : Int) ∧ Held1 L ∧ ∀ (after : Bool) (p : Nat), p ≤ N → rThrough p after L = if p < F then (p : Int) else if T < p ∨ (p = T ∧ F < T) then (p : Int) + vs.length - ((T : Int) - F) else if p = F then (if after then (F : Int) + vs.length else F) else (F : Int) + vs.length := by
  have hno : ¬ OfNo (N : Int) (F : Int) (T : Int) t := by
    rintro (h | h | h | h)
    · omega
    · omega
    · omega
    · exact h ⟨vs, hv⟩
  have hs := of_sums (base := (N : Int)) (fr := (F : Int)) (to := (T : Int)) hv (by omega) (by omega) (by omega) (by omega) hl
  have hf := of_facts (base := (N : Int)) (fr := (F : Int)) (to := (T : Int)) (t := t) (by omega) hno hv.lt hl
  have ht := tlen_norm (ofParts (N : Int) (F : Int) (T : Int) t)
  rw [of_texts] at ht
  refine ⟨rNormal (ofParts (N : Int) (F : Int) (T : Int) t), fun w => ?_, hs.2.2, hs.1, hs.2.1, ⟨hf.good, by have := hf.len; omega, by omega⟩, fun after p hp => ?_⟩
  · refine (opOf_any (N : Int) (F : Int) (T : Int) t (by omega) hv.lt (by omega) w).mono ?_
    rintro e w' ⟨h, hb⟩
    rcases h with h | ⟨_, A, c, he, ho⟩
    · exact absurd h.1 hno
    · exact ⟨⟨A, c, he, CompsC.of_own ho⟩, hb⟩
  · rw [rThrough_thr, thr_of h1 h2 (by omega) ⟨vs, hv⟩ after hp, cps_of hv]

set_option maxHeartbeats 16000000 in
set_option maxRecDepth 100000 in
theorem cursorStays_any (n fr te : Int) (t : List Nat) (at_ : Int) (after : Bool) (hn : Fit64 n) (_hf : Fit64 fr) (_ht : Fit64 te) (hb : ∀ x ∈ t, x < 256) (hm : t.length ≤ maxLen) (_ha : Fit64 at_) (w : World) :
    Calls Try.prog 6 #[.int .i64 n, .int .i64 fr, .int .i64 te, .string (bstr t), .int .i64 at_, .bool after] w fun e w' => e = .returned (.bool true) ∧ Below w.heap.size w w' := by
  clear _hf _ht _ha
  have GA := Lib.hid (fun w => curAwake_any w)
  have HW0 := Lib.hid (Below.refl w.heap.size w)
  unfold maxLen at hm
  unfold Fit64 at hn
  by_cases g1 : n < 0
  · clear hb
    go_enter Try.func6, Try.ntmps6
    go_wp2_with fail
    refine (GA.out _).mono ?_
    rintro e w1 ⟨rfl, hb⟩
    have HW1 : Hid (Below w.heap.size w w1) := HW0.out.trans (hb.mono HW0.out.size)
    clear hb
    go_wp2
    go_ret
    exact ⟨rfl, HW1.out⟩
  by_cases g2 : 500 < n
  · clear hb
    go_enter Try.func6, Try.ntmps6
    go_wp2_with fail
    refine (GA.out _).mono ?_
    rintro e w1 ⟨rfl, hb⟩
    have HW1 : Hid (Below w.heap.size w w1) := HW0.out.trans (hb.mono HW0.out.size)
    clear hb
    go_wp2
    go_ret
    exact ⟨rfl, HW1.out⟩
  obtain ⟨N, rfl⟩ : ∃ N : Nat, n = (N : Int) := ⟨n.toNat, by omega⟩
  have hN : (N : Int) ≤ 500 := by omega
  clear hn g1 g2
  have HSZ := bstr_size t
  by_cases g3 : 300 < t.length
  · clear hb
    go_enter Try.func6, Try.ntmps6
    go_wp2_with fail
    refine (GA.out _).mono ?_
    rintro e w1 ⟨rfl, hb⟩
    have HW1 : Hid (Below w.heap.size w w1) := HW0.out.trans (hb.mono HW0.out.size)
    clear hb
    go_wp2
    go_ret
    exact ⟨rfl, HW1.out⟩
  have h300 : t.length ≤ 300 := by omega
  have h300i : ((t.length : Nat) : Int) ≤ 300 := by omega
  have hN0 : (0 : Int) ≤ (N : Int) := by omega
  clear g3 hm
  have GR1 := Lib.hid (fun w => alikeRound_any fr (N + 1) (by omega) (by omega) w)
  have GR3 := Lib.hid (fun w => alikeRound_any at_ (N + 1) (by omega) (by omega) w)
  have hF := rnd_lt fr (n := N + 1) (by omega)
  have hP := rnd_lt at_ (n := N + 1) (by omega)
  have e1 : ((N + 1 : Nat) : Int) = (N : Int) + 1 := by omega
  rw [e1] at GR1 GR3
  generalize rnd fr (N + 1) = F at GR1 hF
  generalize rnd at_ (N + 1) = P at GR3 hP
  have GR2 := Lib.hid (fun w => alikeRound_any te (N - F + 1) (by omega) (by omega) w)
  have hD := rnd_lt te (n := N - F + 1) (by omega)
  have e2 : ((N - F + 1 : Nat) : Int) = (N : Int) - (F : Int) + 1 := by omega
  rw [e2] at GR2
  generalize rnd te (N - F + 1) = D at GR2 hD
  obtain ⟨T, hT⟩ : ∃ T : Nat, (F : Int) + (D : Int) = (T : Int) := ⟨F + D, by omega⟩
  have hFT : F ≤ T := by omega
  have hTN : T ≤ N := by omega
  clear e1 e2 hF hD
  have hNN : N ≤ 500 := by omega
  by_cases hv : ∃ vs, V t vs
  · obtain ⟨vs, hv⟩ := hv
    have hvl := hv.length_le
    obtain ⟨L, GO, hc, hB, hO, hh, hthr⟩ := stays_of hv hFT hTN hNN h300
    replace hthr := hthr after P (by omega)
    obtain ⟨th, hth⟩ : ∃ x, rThrough (P : Int) after L = x := ⟨_, rfl⟩
    obtain ⟨O, hO'⟩ : ∃ x, rOut L = x := ⟨_, rfl⟩
    rw [hO'] at hO
    have hs := sel_mk (x := (P : Int)) (y := (P : Int)) (by omega) (by omega) (by omega) (by omega)
    have G1 := Lib.hid (fun w => of_yes (x := (P : Int)) (y := (P : Int)) (by omega) (by omega) (by omega) (by omega) w)
    have GT := Lib.hid (fun A c w h => through_yes hs after A c L hc hB (by omega) hh w h)
    rw [hth] at GT hthr
    have GP := Lib.hid (fun a b (h : Sel a b th th) w => places_yes h w)
    have GB := Lib.hid (fun A c w h => kBase hB hh A c w h)
    have GU := Lib.hid (fun A c w (h : CompsC w A c L) => opOut_any A c L hh.max hh.fine w h.1)
    rw [hO'] at GU
    replace GO := Lib.hid GO
    have HTHR := Lib.hid hthr
    have hO1 : 0 ≤ O ∧ O ≤ 1000 := by omega
    have HO := Lib.hid hO
    have hTI : (F : Int) ≤ (T : Int) ∧ (T : Int) ≤ (N : Int) ∧ (P : Int) ≤ (N : Int) := by omega
    obtain ⟨hT1, hT2, hT3⟩ := hTI
    have hth2 : 0 ≤ th ∧ th ≤ 2000 := by rw [← hth]; exact thr_sel hc after _
    obtain ⟨hth3, hth4⟩ := hth2
    clear hv hvl hs hc hB hO' hO hh hthr hth h300 hFT hTN hNN hP hb
    generalize L.length = ll at *
    go_enter Try.func6, Try.ntmps6
    go_wp2_with fail
    refine (GR1.out _).mono ?_
    rintro e v ⟨rfl, rfl⟩
    go_wp2_with fail
    refine (GR2.out _).mono ?_
    rintro e v ⟨rfl, rfl⟩
    go_wp2_with fail
    refine (GO.out _).mono ?_
    rintro e w1 ⟨⟨A, c, rfl, hc⟩, hb⟩
    have HW1 : Hid (Below w.heap.size w w1) := HW0.out.trans (hb.mono HW0.out.size)
    have HC := Lib.hid hc
    clear hc
    clear hb
    go_wp2_with fail
    refine (GR3.out _).mono ?_
    rintro e v ⟨rfl, rfl⟩
    go_wp2_with fail
    refine (G1.out _).mono ?_
    rintro e v ⟨rfl, rfl⟩
    go_wp2_with fail
    refine (GT.out _ _ _ HC.out).mono ?_
    rintro e w2 ⟨⟨p, q, rfl, hp⟩, hb⟩
    have HW2 : Hid (Below w.heap.size w w2) := HW1.out.trans (hb.mono HW1.out.size)
    replace HC := Lib.hid (HC.out.below hb)
    have HP := Lib.hid hp
    clear hp
    clear hb
    go_wp2_with fail
    refine (GP.out _ _ HP.out _).mono ?_
    rintro e v ⟨rfl, rfl⟩
    go_wp2_with fail
    refine (GU.out _ _ _ HC.out).mono ?_
    rintro e w3 ⟨rfl, hb⟩
    have HW3 : Hid (Below w.heap.size w w3) := HW2.out.trans (hb.mono HW2.out.size)
    replace HC := Lib.hid (HC.out.below hb)
    clear hb
    go_wp2_with fail
    refine (GB.out _ _ _ HC.out).mono ?_
    rintro e w4 ⟨rfl, hb⟩
    have HW4 : Hid (Below w.heap.size w w4) := HW3.out.trans (hb.mono HW3.out.size)
    replace HC := Lib.hid (HC.out.below hb)
    clear hb
    by_cases c1 : (P : Int) < (F : Int)
    · have e1 : th = (P : Int) := by rw [HTHR.out, if_pos (by omega)]
      subst e1
      go_wp2_with fail
      refine (GA.out _).mono ?_
      rintro e w5 ⟨rfl, hb⟩
      have HW5 : Hid (Below w.heap.size w w5) := HW4.out.trans (hb.mono HW4.out.size)
      replace HC := Lib.hid (HC.out.below hb)
      clear hb
      go_wp2
      go_ret
      exact ⟨rfl, HW5.out⟩
    by_cases c2 : (T : Int) < (P : Int)
    · have e1 : th = (P : Int) + (O - (N : Int)) := by rw [HTHR.out, if_neg (by omega), if_pos (.inl (by omega))]; have := HO.out; omega
      subst e1
      go_wp2_with fail
      refine (GA.out _).mono ?_
      rintro e w5 ⟨rfl, hb⟩
      have HW5 : Hid (Below w.heap.size w w5) := HW4.out.trans (hb.mono HW4.out.size)
      replace HC := Lib.hid (HC.out.below hb)
      clear hb
      go_wp2
      go_ret
      exact ⟨rfl, HW5.out⟩
    by_cases c3 : (P : Int) = (T : Int) ∧ (F : Int) < (T : Int)
    · obtain ⟨c3, c4⟩ := c3
      have e1 : th = (P : Int) + (O - (N : Int)) := by rw [HTHR.out, if_neg (by omega), if_pos (.inr (by omega))]; have := HO.out; omega
      subst e1
      obtain rfl : P = T := by omega
      go_wp2_with fail
      refine (GA.out _).mono ?_
      rintro e w5 ⟨rfl, hb⟩
      have HW5 : Hid (Below w.heap.size w w5) := HW4.out.trans (hb.mono HW4.out.size)
      replace HC := Lib.hid (HC.out.below hb)
      clear hb
      go_wp2
      go_ret
      exact ⟨rfl, HW5.out⟩
    by_cases c4 : (P : Int) = (F : Int)
    · obtain rfl : P = F := by omega
      have e0 : th = if after then (P : Int) + (O - (N : Int)) + ((T : Int) - (P : Int)) else (P : Int) := by
        have := HO.out
        cases after
        · rw [HTHR.out, if_neg (by omega), if_neg (by omega), if_pos rfl]; rfl
        · rw [HTHR.out, if_neg (by omega), if_neg (by omega), if_pos rfl, if_pos rfl, if_pos rfl]; omega
      by_cases c5 : (P : Int) = (T : Int)
      · obtain rfl : P = T := by omega
        cases after
        · have e1 : th = (P : Int) := e0
          clear e0
          subst e1
          go_wp2_with fail
          refine (GA.out _).mono ?_
          rintro e w5 ⟨rfl, hb⟩
          have HW5 : Hid (Below w.heap.size w w5) := HW4.out.trans (hb.mono HW4.out.size)
          replace HC := Lib.hid (HC.out.below hb)
          clear hb
          go_wp2
          go_ret
          exact ⟨rfl, HW5.out⟩
        · have e1 : th = (P : Int) + (O - (N : Int)) := by rw [e0, if_pos rfl]; omega
          clear e0
          subst e1
          go_wp2_with fail
          refine (GA.out _).mono ?_
          rintro e w5 ⟨rfl, hb⟩
          have HW5 : Hid (Below w.heap.size w w5) := HW4.out.trans (hb.mono HW4.out.size)
          replace HC := Lib.hid (HC.out.below hb)
          clear hb
          go_wp2
          go_ret
          exact ⟨rfl, HW5.out⟩
      · have c6 : (P : Int) < (T : Int) := by omega
        cases after
        · have e1 : th = (P : Int) := e0
          clear e0
          subst e1
          go_wp2_with fail
          refine (GA.out _).mono ?_
          rintro e w5 ⟨rfl, hb⟩
          have HW5 : Hid (Below w.heap.size w w5) := HW4.out.trans (hb.mono HW4.out.size)
          replace HC := Lib.hid (HC.out.below hb)
          clear hb
          go_wp2
          go_ret
          exact ⟨rfl, HW5.out⟩
        · have e1 : th = (P : Int) + (O - (N : Int)) + ((T : Int) - (P : Int)) := by rw [e0, if_pos rfl]
          clear e0
          subst e1
          go_wp2_with fail
          refine (GA.out _).mono ?_
          rintro e w5 ⟨rfl, hb⟩
          have HW5 : Hid (Below w.heap.size w w5) := HW4.out.trans (hb.mono HW4.out.size)
          replace HC := Lib.hid (HC.out.below hb)
          clear hb
          go_wp2
          go_ret
          exact ⟨rfl, HW5.out⟩
    · have e1 : th = (F : Int) + (O - (N : Int)) + ((T : Int) - (F : Int)) := by rw [HTHR.out, if_neg (by omega), if_neg (by omega), if_neg (by omega)]; have := HO.out; omega
      subst e1
      go_wp2_with fail
      refine (GA.out _).mono ?_
      rintro e w5 ⟨rfl, hb⟩
      have HW5 : Hid (Below w.heap.size w w5) := HW4.out.trans (hb.mono HW4.out.size)
      replace HC := Lib.hid (HC.out.below hb)
      clear hb
      go_wp2
      go_ret
      exact ⟨rfl, HW5.out⟩
  · have GO := Lib.hid (fun w => opOf_any (N : Int) (F : Int) (T : Int) t (by omega) hb (by omega) w)
    have HNV := Lib.hid hv
    have hT1 : (F : Int) ≤ (T : Int) ∧ (T : Int) ≤ (N : Int) := by omega
    obtain ⟨hT1, hT2⟩ := hT1
    clear hv hFT hTN hNN hP hb GR3 h300
    go_enter Try.func6, Try.ntmps6
    go_wp2_with fail
    refine (GR1.out _).mono ?_
    rintro e v ⟨rfl, rfl⟩
    go_wp2_with fail
    refine (GR2.out _).mono ?_
    rintro e v ⟨rfl, rfl⟩
    go_wp2_with fail
    refine (GO.out _).mono ?_
    rintro e w1 ⟨h, hb⟩
    have HW1 : Hid (Below w.heap.size w w1) := HW0.out.trans (hb.mono HW0.out.size)
    rcases h with ⟨_, rfl⟩ | ⟨h, _⟩
    · clear hb
      go_wp2_with fail
      refine (GA.out _).mono ?_
      rintro e w2 ⟨rfl, hb⟩
      have HW2 : Hid (Below w.heap.size w w2) := HW1.out.trans (hb.mono HW1.out.size)
      clear hb
      go_wp2
      go_ret
      exact ⟨rfl, HW2.out⟩
    · exact absurd (.inr (.inr (.inr HNV.out))) h
end Go.Proofs.Ytigmgnoiinljpaa

/- What lies ahead of all that an edit changes stays where it was, and what lies behind it goes by as much as the text grew: it answers true and changes nothing. No condition. -/
namespace Go.Proofs.Ytigmgnoiinljpaa
open Go.ChangeShapes Go.WideShapes Go.ChangeAt Go.RowKit

theorem trodAll_six {H : Type} {enc : TypeId × Value → H} {P : Program} {w : World} {base : Nat} {spare : Nat → Bool} {held : Bool} {t t' t'' t3 t4 t5 : TypeId} {args : Array Value} {ds : List (DataW H)} {ps : List MemPlace} (h : DataW.TrodAll enc P w base spare held [t, t', t'', t3, t4, t5] args.toList ds ps) :
    ∃ v v' v'' v3 v4 v5 d d' d'' d3 d4 d5 p p' p'' p3 p4 p5, args = #[v, v', v'', v3, v4, v5] ∧ ds = [d, d', d'', d3, d4, d5] ∧ ps = p ++ p' ++ p'' ++ p3 ++ p4 ++ p5 ∧ DataW.Trod enc P w base spare held t v d p ∧ DataW.Trod enc P w base spare held t' v' d' p' ∧ DataW.Trod enc P w base spare held t'' v'' d'' p'' ∧ DataW.Trod enc P w base spare held t3 v3 d3 p3 ∧ DataW.Trod enc P w base spare held t4 v4 d4 p4 ∧ DataW.Trod enc P w base spare held t5 v5 d5 p5 := by
  obtain ⟨v, vs, d, ds', p, q, hargs, rfl, rfl, hd, hrest⟩ := trodAll_cons h
  obtain ⟨v', vs', d', ds'', p', q', rfl, rfl, rfl, hd', hrest'⟩ := trodAll_cons hrest
  obtain ⟨v'', vs'', d'', ds''', p'', q'', rfl, rfl, rfl, hd'', hrest''⟩ := trodAll_cons hrest'
  obtain ⟨v3, vs3, d3, ds3, p3, q3, rfl, rfl, rfl, hd3, hrest3⟩ := trodAll_cons hrest''
  obtain ⟨v4, vs4, d4, ds4, p4, q4, rfl, rfl, rfl, hd4, hrest4⟩ := trodAll_cons hrest3
  obtain ⟨v5, vs5, d5, ds5, p5, q5, rfl, rfl, rfl, hd5, hrest5⟩ := trodAll_cons hrest4
  obtain ⟨rfl, rfl, rfl⟩ := trodAll_nil hrest5
  exact ⟨v, v', v'', v3, v4, v5, d, d', d'', d3, d4, d5, p, p', p'', p3, p4, p5, by cases args; simp_all, rfl, by simp, hd, hd', hd'', hd3, hd4, hd5⟩

set_option maxRecDepth 100000 in
theorem cursorStays_lifted (os : Os) (started : os.Started) (H : Type) (enc : TypeId × Value → H) :
    ReturnsInHanded {} Try.checked os 6 .any (Rows.cursorStaysSpec.pre6 enc Try.prog Try.f6 Rows.cursorStaysRow.domain false) (Rows.cursorStaysSpec.post enc Try.prog Try.f6 false true false false) := by
  refine returnsInHanded_of_change (C := Try.checked) law_own started (by kernel_rfl) Try.func6
    (ChangeSpec.witness6 (enc := enc) (C := Try.checked) false ⟨#[], #[.int .i64 0, .int .i64 0, .int .i64 0, .string { data := #[] }, .int .i64 0, .bool false], []⟩ 8 (by kernel_rfl) (by kernel_rfl) (by kernel_rfl) (by kernel_rfl)) ?_
  intro W base args ds gs before hval0 hW _ _
  have hval : ∀ (j : Nat) t v, Try.f6.params[j]? = some t → args[j]? = some v → Value.okWide Try.prog W .any base t v := hval0
  have hW' := hW
  obtain ⟨p, q, hA0, hV, rfl, _, _⟩ := hW
  have hA : DataW.TrodAll enc Try.prog W 0 (fun _ => true) true Try.f6.params.toList args.toList ds p := hA0
  rw [Try.params6] at hA hval
  obtain ⟨v0, v1, v2, v3, v4, v5, d0, d1, d2, d3, d4, d5, p0, p1, p2, p3, p4, p5, rfl, rfl, rfl, h0, h1, h2, h3, h4, h5⟩ := trodAll_six hA
  obtain ⟨rfl, rfl⟩ := trodVars_none hV
  obtain ⟨n0, rfl, rfl, rfl, hw0⟩ := open_int Try.underlying3 (hval 0 3 v0 rfl rfl) h0
  have hn0 : -9223372036854775808 ≤ n0 ∧ n0 ≤ 9223372036854775807 := by simpa [Lit.wf, IntKind.min, IntKind.max, IntKind.signed, IntKind.bits] using hw0
  obtain ⟨n1, rfl, rfl, rfl, hw1⟩ := open_int Try.underlying3 (hval 1 3 v1 rfl rfl) h1
  have hn1 : -9223372036854775808 ≤ n1 ∧ n1 ≤ 9223372036854775807 := by simpa [Lit.wf, IntKind.min, IntKind.max, IntKind.signed, IntKind.bits] using hw1
  obtain ⟨n2, rfl, rfl, rfl, hw2⟩ := open_int Try.underlying3 (hval 2 3 v2 rfl rfl) h2
  have hn2 : -9223372036854775808 ≤ n2 ∧ n2 ≤ 9223372036854775807 := by simpa [Lit.wf, IntKind.min, IntKind.max, IntKind.signed, IntKind.bits] using hw2
  obtain ⟨s3, rfl, rfl, rfl, hsz3⟩ := Go.ChangeMaps.open_string Try.underlying9 (hval 3 9 v3 rfl rfl) h3
  obtain ⟨t3, hb3, rfl⟩ := bstr_any s3
  have hl3 : t3.length ≤ maxLen := by rw [bstr_size] at hsz3; exact hsz3
  obtain ⟨n4, rfl, rfl, rfl, hw4⟩ := open_int Try.underlying3 (hval 4 3 v4 rfl rfl) h4
  have hn4 : -9223372036854775808 ≤ n4 ∧ n4 ≤ 9223372036854775807 := by simpa [Lit.wf, IntKind.min, IntKind.max, IntKind.signed, IntKind.bits] using hw4
  obtain ⟨f5, rfl, rfl, rfl⟩ := open_bool Try.underlying4 (hval 5 4 v5 rfl rfl) h5
  clear hA0 hval0
  refine (cursorStays_any n0 n1 n2 t3 n4 f5 hn0 hn1 hn2 hb3 hl3 hn4 W).mono fun e W' ⟨he, hb⟩ => ?_
  exact ⟨_, he, law_post law_laid (by kernel_rfl) (by kernel_rfl) Try.underlying4 rfl hW' rfl hb⟩

theorem cursorStays_holds : Rows.CursorStaysSaid :=
  OpenClaim.holds_of_wide 6 Try.f6 rfl rfl rfl rfl rfl rfl rfl ⟨rfl, rfl, rfl, rfl, rfl⟩ rfl rfl rfl rfl rfl (by kernel_rfl) Try.func6 (by kernel_rfl)
    (of_decide_eq_true (by kernel_rfl)) (by unfold Func.isWrapper; first | (rw [if_pos (by decide +kernel)]; kernel_rfl) | (rw [if_neg (by decide +kernel)]; exact ⟨rfl, rfl⟩))
    (fun os started H enc _ => cursorStays_lifted os started H enc)
end Go.Proofs.Ytigmgnoiinljpaa
