/- GridLines, walked: lines put together make the text's lines, each as wide as it is; a step down, and back up, from a column that all have, is none. Condition: what memory may hold. -/
import Derived.Test.YtgenphpaidanhaaLawGridBack
import Derived.Test.YtgenphpaidanhaaLawGridSteps
import Derived.Test.YtgenphpaidanhaaStrs
import Derived.Test.YtgenphpaidanhaaGridJoin
namespace Go.Proofs.Ytgenphpaidanhaa
open Go.RowKit Go.Deep Ieee
attribute [-go_sem] binOp_float_cmp_eql binOp_float_cmp_neq binOp_float_cmp_lss binOp_float_cmp_leq binOp_float_cmp_gtr binOp_float_cmp_geq run_eql_complex run_neq_complex run_min_int2 run_max_int2
attribute [local irreducible] floatOfInt

/-- A text's code points; none of what is no text. -/
noncomputable def cpv (l : List Nat) : List Nat := @dite _ (∃ vs, V l vs) (Classical.propDecidable _) (fun h => h.choose) (fun _ => [])
theorem cpv_V {l vs : List Nat} (h : V l vs) : V l (cpv l) := by
  have h' : ∃ vs, V l vs := ⟨vs, h⟩
  unfold cpv
  rw [dif_pos h']
  exact h'.choose_spec
/-- What all lines are that were gone through: texts, with no 10, none shorter than the least. -/
def AllL (L : List (List Nat)) (k lo : Nat) : Prop := ∀ (j : Nat) (x : List Nat), j < k → L[j]? = some x → V x (cpv x) ∧ 10 ∉ x ∧ lo ≤ (cpv x).length
theorem AllL.zero (L : List (List Nat)) (lo : Nat) : AllL L 0 lo := fun j _ h => by omega
theorem AllL.next {L : List (List Nat)} {k lo : Nat} (h : AllL L k lo) {x vs : List Nat} (hx : L[k]? = some x) (hv : V x vs) (hn : 10 ∉ x) {m : Nat} (h1 : m ≤ lo) (h2 : m ≤ vs.length) : AllL L (k + 1) m := by
  intro j y hj hy
  rcases Nat.lt_or_ge j k with g | g
  · obtain ⟨a, b, c⟩ := h j y g hy
    exact ⟨a, b, by omega⟩
  · obtain rfl : j = k := by omega
    rw [hx] at hy
    obtain rfl := Option.some.inj hy
    have := cpv_V hv
    rw [this.uniq hv]
    exact ⟨hv, hn, h2⟩
/-- The whole text, and what is so of it. -/
theorem all_lines {L : List (List Nat)} {lo : Nat} (h : AllL L L.length lo) (h0 : 0 < L.length) : ∃ VS, V (joinB L) VS ∧ lst VS + 1 = L.length ∧ ∀ (k : Nat) (x : List Nat), L[k]? = some x → wdt VS k = (cpv x).length ∧ lo ≤ wdt VS k := by
  have hn : ∀ y ∈ L.map cpv, 10 ∉ y := by
    intro y hy
    obtain ⟨x, hx, rfl⟩ := List.mem_map.1 hy
    obtain ⟨j, hj⟩ := List.getElem?_of_mem hx
    obtain ⟨a, b, _⟩ := h j x (List.getElem?_eq_some_iff.1 hj).1 hj
    exact a.no_ten b
  have hv : V (joinB L) (joinB (L.map cpv)) := V_join _ _ (by rw [List.length_map]) (fun j x y hx hy => by
    rw [List.getElem?_map, hx] at hy
    obtain rfl := Option.some.inj hy
    exact (h j x (List.getElem?_eq_some_iff.1 hx).1 hx).1)
  refine ⟨_, hv, by rw [lst_lines hn (by rw [List.length_map]; exact h0), List.length_map], fun k x hx => ?_⟩
  have hk := (List.getElem?_eq_some_iff.1 hx).1
  have hxe := (List.getElem?_eq_some_iff.1 hx).2
  have e : wdt (joinB (L.map cpv)) k = (cpv x).length := by
    rw [wdt_lines hn (k := k) (by rw [List.length_map]; exact hk), List.getElem_map, hxe]
  exact ⟨e, by rw [e]; exact (h k x hk hx).2.2⟩
theorem add_ten (S : List Nat) (h : S.length ≤ 1099511627776) (w : World) : (Op.stringOp .add (bstr S) { data := #[10] }).run Try.prog w = .ok (.string (bstr (S ++ [10]))) w := add_bstr S [10] h (by simp) w

set_option maxHeartbeats 16000000 in
set_option maxRecDepth 100000 in
theorem lines_none (A : Option Addr) (c : Nat) (line col_ : Int) (w : World) :
    Calls Try.prog 6 #[.slice A 0 c, .int .i64 line, .int .i64 col_] w fun e w' => e = .returned (.bool true) ∧ Below w.heap.size w w' := by
  have GA := Lib.hid (fun w => gridAwake_any w)
  have HW0 := Lib.hid (Below.refl w.heap.size w)
  go_enter Try.func6, Try.ntmps6
  go_wp2_with fail
  refine (GA.out _).mono ?_
  rintro e w1 ⟨rfl, hb⟩
  have HW1 : Hid (Below w.heap.size w w1) := HW0.out.trans (hb.mono HW0.out.size)
  clear hb
  go_wp2
  go_ret
  exact ⟨rfl, HW1.out⟩
set_option maxHeartbeats 16000000 in
set_option maxRecDepth 100000 in
theorem lines_many (A : Option Addr) (L : List (List Nat)) (c : Nat) (line col_ : Int) (h : 20 < L.length) (w : World) :
    Calls Try.prog 6 #[.slice A L.length c, .int .i64 line, .int .i64 col_] w fun e w' => e = .returned (.bool true) ∧ Below w.heap.size w w' := by
  have GA := Lib.hid (fun w => gridAwake_any w)
  have HW0 := Lib.hid (Below.refl w.heap.size w)
  have h0 : ((L.length : Int) == 0) = false := beq_eq_false_iff_ne.2 (by omega)
  go_enter Try.func6, Try.ntmps6
  go_wp2_with fail
  refine (GA.out _).mono ?_
  rintro e w1 ⟨rfl, hb⟩
  have HW1 : Hid (Below w.heap.size w w1) := HW0.out.trans (hb.mono HW0.out.size)
  clear hb
  go_wp2
  go_ret
  exact ⟨rfl, HW1.out⟩
set_option maxHeartbeats 16000000 in
set_option maxRecDepth 100000 in
theorem lines_long (b off : Nat) (L : List (List Nat)) (c : Nat) (line col_ : Int) (h0 : 0 < L.length) (h : L.length ≤ 20) (hf : FineS L) (hT : 400 < words 400 L) (w : World) (hl : StrsAt w (some ⟨b, off, none⟩) L) :
    Calls Try.prog 6 #[.slice (some ⟨b, off, none⟩) L.length c, .int .i64 line, .int .i64 col_] w fun e w' => e = .returned (.bool true) ∧ Below w.heap.size w w' := by
  have GA := Lib.hid (fun w => gridAwake_any w)
  have HW0 := Lib.hid (Below.refl w.heap.size w)
  have GW := Lib.hid (fun w (h : StrsAt w (some ⟨b, off, none⟩) L) => alikeWords_row 400 b off c L (by unfold maxLen; omega) hf w h)
  have HL := Lib.hid hl
  have e0 : ((L.length : Int) == 0) = false := beq_eq_false_iff_ne.2 (by omega)
  generalize words 400 L = T at GW hT
  clear hf hl
  go_enter Try.func6, Try.ntmps6
  go_wp2_with fail
  refine (GW.out _ HL.out).mono ?_
  rintro e w1 ⟨rfl, hb⟩
  have HW1 : Hid (Below w.heap.size w w1) := HW0.out.trans (hb.mono HW0.out.size)
  replace HL := Lib.hid (HL.out.below hb)
  clear hb
  go_wp2_with fail
  refine (GA.out _).mono ?_
  rintro e w2 ⟨rfl, hb⟩
  have HW2 : Hid (Below w.heap.size w w2) := HW1.out.trans (hb.mono HW1.out.size)
  replace HL := Lib.hid (HL.out.below hb)
  clear hb
  go_wp2
  go_ret
  exact ⟨rfl, HW2.out⟩
set_option maxHeartbeats 16000000 in
set_option maxRecDepth 100000 in
theorem lines_main (b off : Nat) (L : List (List Nat)) (c : Nat) (line col_ : Int) (h0 : 0 < L.length) (h : L.length ≤ 20) (hf : FineS L) (hT : words 400 L ≤ 400) (w : World) (hl : StrsAt w (some ⟨b, off, none⟩) L) :
    Calls Try.prog 6 #[.slice (some ⟨b, off, none⟩) L.length c, .int .i64 line, .int .i64 col_] w fun e w' => e = .returned (.bool true) ∧ Below w.heap.size w w' := by
  have GA := Lib.hid (fun w => gridAwake_any w)
  have HW0 := Lib.hid (Below.refl w.heap.size w)
  have GW := Lib.hid (fun w (h : StrsAt w (some ⟨b, off, none⟩) L) => alikeWords_row 400 b off c L (by unfold maxLen; omega) hf w h)
  have HSP := Lib.hid (words_spec (by omega) hT)
  have HL := Lib.hid hl
  have HL0 := HL
  have e0 : ((L.length : Int) == 0) = false := beq_eq_false_iff_ne.2 (by omega)
  generalize words 400 L = T at GW hT
  clear hl
  go_enter Try.func6, Try.ntmps6
  go_wp2_with fail
  refine (GW.out _ HL.out).mono ?_
  rintro e w1 ⟨rfl, hb⟩
  have HW1 : Hid (Below w.heap.size w w1) := HW0.out.trans (hb.mono HW0.out.size)
  replace HL := Lib.hid (HL.out.below hb)
  clear hb
  go_wp2
  go_loopw [6, 7, 8, 9] (fun r s lw i wr => ∃ (k lo : Nat) (S : List Nat), k ≤ L.length ∧ r = .bool false ∧ s = .string (bstr S) ∧ lw = .int .i64 (lo : Int) ∧ i = .int .i64 (k : Int) ∧ lo ≤ 1000 ∧ S.length ≤ 401 * k ∧ Hid (joinB (L.take k) = S) ∧ Hid (AllL L k lo) ∧ Hid (Below w.heap.size w wr)) (fun _ _ _ i _ => L.length - (intOf i).toNat)
  case atStart => exact ⟨0, 1000, [], Nat.zero_le _, rfl, rfl, rfl, rfl, Nat.le_refl _, Nat.zero_le _, by rw [List.take_zero, joinB_nil]; exact Lib.hid rfl, AllL.zero L 1000, HW1⟩
  case round =>
    obtain ⟨k, lo, S, hk, rfl, rfl, rfl, rfl, hlo, hSl, HS, HALL, HWR⟩ := hrel
    have HL2 := Lib.hid (HL0.out.below HWR.out)
    by_cases hlt : k < L.length
    · obtain ⟨x, HX⟩ : ∃ x, Hid (L[k]? = some x) := ⟨_, List.getElem?_eq_getElem hlt⟩
      have hcell := HL2.out.cell hlt
      have hxe : L[k] = x := (List.getElem?_eq_some_iff.1 HX.out).2
      have HFX := Lib.hid (hf _ (List.getElem_mem hlt))
      have HXL := Lib.hid (HSP.out _ (List.getElem_mem hlt))
      rw [hxe] at hcell HFX HXL
      have hxl := HXL.out
      have hxsz := bstr_size x
      have GV := Lib.hid (fun w => refValid_any x HFX.out.2 (by omega) w)
      clear hxe
      by_cases hv : ∃ vs, V x vs
      · obtain ⟨vs, hv⟩ := hv
        have HV := Lib.hid hv
        rw [validB_yes hv] at GV
        have GC := Lib.hid (fun w => refCount_yes hv (by omega) w)
        clear hv
        go_wp2_with fail
        refine (GV.out _).mono ?_
        rintro e w2 ⟨rfl, hb⟩
        have HW2 := Lib.hid (HWR.out.trans (hb.mono HWR.out.size))
        have hcell2 := ((HL0.out.below HW2.out).cell hlt)
        rw [(List.getElem?_eq_some_iff.1 HX.out).2] at hcell2
        clear hb
        go_wp2
        go_loopw [6, 10] (fun r i wq => ∃ q : Nat, q ≤ x.length ∧ r = .bool false ∧ i = .int .i64 (q : Int) ∧ wq = w2 ∧ Hid (∀ j : Nat, j < q → ¬ x[j]? = some 10)) (fun _ i _ => x.length - (intOf i).toNat)
        case atStart => exact ⟨0, Nat.zero_le _, rfl, rfl, rfl, Lib.hid (fun j h => by omega)⟩
        case round =>
          obtain ⟨q, hq, rfl, rfl, rfl, HNT⟩ := hrel
          by_cases hql : q < x.length
          · have hdr := List.drop_eq_getElem_cons hql
            have hby := fun w => byte_at HFX.out.2 hdr w
            clear hdr
            by_cases h10 : x[q] = 10
            · rw [h10] at hby
              go_wp2_with fail
              refine (GA.out _).mono ?_
              rintro e w3 ⟨rfl, hb⟩
              have HW3 := Lib.hid (HW2.out.trans (hb.mono HW2.out.size))
              clear hb
              go_wp2
              go_ret
              exact ⟨rfl, HW3.out⟩
            · have hne : ((x[q] : Int) == 10) = false := beq_eq_false_iff_ne.2 (by omega)
              have HNN : Hid (∀ j : Nat, j < q + 1 → ¬ x[j]? = some 10) := by
                intro j hj
                rcases Nat.lt_or_ge j q with g | g
                · exact HNT.out j g
                · obtain rfl : j = q := by omega
                  rw [List.getElem?_eq_getElem hql]
                  exact fun e => h10 (Option.some.inj e)
              generalize x[q] = xq at hby hne h10
              go_wp2
              go_roundw
              case rel => exact ⟨q + 1, by omega, rfl, by go_num, trivial, HNN⟩
              case measure => simp [intOf]; omega
          · have HN10 : Hid (10 ∉ x) := by
              intro hm
              obtain ⟨j, hj⟩ := List.getElem?_of_mem hm
              have := (List.getElem?_eq_some_iff.1 hj).1
              exact HNT.out j (by omega) hj
            obtain ⟨m, HM⟩ : ∃ m : Nat, min (lo : Int) (vs.length : Int) = (m : Int) := ⟨(min (lo : Int) (vs.length : Int)).toNat, by omega⟩
            have hmin := rMin (lo : Int) (vs.length : Int) HM
            have hml : m ≤ 1000 := by omega
            have HALL2 : Hid (AllL L (k + 1) m) := HALL.out.next HX.out HV.out HN10.out (by omega) (by omega)
            have HJ := Lib.hid (joinB_take hlt)
            rw [HS.out, (List.getElem?_eq_some_iff.1 HX.out).2] at HJ
            clear HM
            by_cases hk0 : k = 0
            · have hS0 : S = [] := by
                rw [← HS.out, hk0, List.take_zero, joinB_nil]
              have hadd := fun w => add_bstr S x (by omega) (by omega) w
              have HJ2 : Hid (joinB (L.take (k + 1)) = S ++ x) := by
                show _ = _
                rw [HJ.out, if_pos hk0, hS0]; rfl
              have HLN : Hid ((S ++ x).length ≤ 401 * (k + 1)) := by
                show _ ≤ _
                rw [List.length_append]; omega
              clear hS0
              subst hk0
              have hcell3 := hcell2
              rw [Nat.add_zero] at hcell3
              go_wp2_with fail
              refine (GC.out _).mono ?_
              rintro e w3 ⟨rfl, hb⟩
              have HW3 := Lib.hid (HW2.out.trans (hb.mono HW2.out.size))
              clear hb
              go_wp2
              go_roundw
              case rel => exact ⟨0 + 1, m, S ++ x, by omega, rfl, rfl, rfl, by go_num, hml, HLN.out, HJ2, HALL2, HW3⟩
              case measure => simp [intOf]; omega
            · have hadd1 := fun w => add_ten S (by omega) w
              have hadd := fun w => add_bstr (S ++ [10]) x (by rw [List.length_append]; simp; omega) (by omega) w
              have HJ2 : Hid (joinB (L.take (k + 1)) = S ++ [10] ++ x) := by
                show _ = _
                rw [HJ.out, if_neg hk0, List.append_assoc]; rfl
              have HLN : Hid ((S ++ [10] ++ x).length ≤ 401 * (k + 1)) := by
                show _ ≤ _
                rw [List.length_append, List.length_append]; simp; omega
              have hki : (0 : Int) < (k : Int) := by omega
              have hkn : 0 < k := by omega
              generalize S ++ [10] = S1 at *
              go_wp2_with fail
              refine (GC.out _).mono ?_
              rintro e w3 ⟨rfl, hb⟩
              have HW3 := Lib.hid (HW2.out.trans (hb.mono HW2.out.size))
              clear hb
              go_wp2
              go_roundw
              case rel => exact ⟨k + 1, m, S1 ++ x, by omega, rfl, rfl, rfl, by go_num, hml, HLN.out, HJ2, HALL2, HW3⟩
              case measure => simp [intOf]; omega
      · rw [validB_no hv] at GV
        clear hv
        go_wp2_with fail
        refine (GV.out _).mono ?_
        rintro e w2 ⟨rfl, hb⟩
        have HW2 := Lib.hid (HWR.out.trans (hb.mono HWR.out.size))
        clear hb
        go_wp2_with fail
        refine (GA.out _).mono ?_
        rintro e w3 ⟨rfl, hb⟩
        have HW3 := Lib.hid (HW2.out.trans (hb.mono HW2.out.size))
        clear hb
        go_wp2
        go_ret
        exact ⟨rfl, HW3.out⟩
    · obtain rfl : k = L.length := by omega
      have hS : joinB L = S := by rw [← HS.out, List.take_length]
      obtain ⟨VS, hv, hlst, hw⟩ := all_lines HALL.out h0
      rw [hS] at hv
      have hls : S.length ≤ 1099511627776 := by omega
      have hlsti : (lst VS : Int) + 1 = (L.length : Int) := by omega
      have GL := Lib.hid (fun w => kLines hv hls w)
      rw [hlsti] at GL
      have GWD := Lib.hid (fun (k : Nat) (x : List Nat) (hk : L[k]? = some x) w => by
        have h1 := width_in hv hls (k : Int) w
        have h2 : k ≤ lst VS := by have := (List.getElem?_eq_some_iff.1 hk).1; omega
        rw [wOut_yes h2, wErr_yes h2, (hw k x hk).1] at h1
        exact h1)
      have GRC := Lib.hid (fun w => alikeRound_any col_ (lo + 1) (by omega) (by omega) w)
      have GRL := Lib.hid (fun w => alikeRound_any line L.length h0 (by omega) w)
      have hc1 := rnd_lt col_ (n := lo + 1) (by omega)
      have hln := rnd_lt line h0
      rw [show ((lo + 1 : Nat) : Int) = (lo : Int) + 1 by omega] at GRC
      generalize rnd col_ (lo + 1) = cc at GRC hc1
      generalize rnd line L.length = ln at GRL hln
      have hwk : ∀ k : Nat, k < L.length → cc ≤ wdt VS k := fun k hk => by have := (hw k _ (List.getElem?_eq_getElem hk)).2; omega
      have FC := FV.ofInt (n := (cc : Int)) (by omega)
      have FL := FV.ofInt (n := (ln : Int)) (by omega)
      obtain ⟨g, _, hg2, hg3, hg4, hgp⟩ := place_point hv hls (k := ln) (c := cc) (by omega) (hwk ln hln)
      have GP := Lib.hid (fun w => hgp ⟨FC, FL⟩ w)
      have GQ := Lib.hid (fun w => at_yes hv hls hg2 w)
      rw [hg3, hg4, show ((g + cc : Nat) : Int) = (g : Int) + (cc : Int) by omega] at GQ
      obtain ⟨L2, hL2⟩ : ∃ L2 : Nat, L2 = (if ln + 1 = L.length then ln else ln + 1) := ⟨_, rfl⟩
      have hL2l : L2 < L.length := by rw [hL2]; split <;> omega
      have GS1 := Lib.hid (fun w => step_yes hv hls hg2 (ca := floatOfInt .f64 (cc : Int)) (cb := floatOfInt .f64 (ln : Int)) (by rw [hg3, hg4]; exact ⟨FC, FL⟩) (da := 0) (db := 4607182418800017408) (a := 0) (b := 1) ⟨FV.c0, FV.c1⟩ (by omega) (by omega) (by omega) (by omega)
        (L := L2) (by rw [hg3, hL2]; split <;> omega) (C := (cc : Int)) (by have := hwk L2 hL2l; rw [hg4]; omega) w)
      obtain ⟨g', _, hk2, hk3, hk4, _⟩ := place_point hv hls (k := L2) (c := cc) (by omega) (hwk L2 hL2l)
      obtain ⟨L3, hL3⟩ : ∃ L3 : Nat, L3 = L2 - 1 := ⟨_, rfl⟩
      have hL3l : L3 < L.length := by omega
      have GS2 := Lib.hid (fun (ca cb : Nat) (hh : PtV ca cb (cc : Int) (L2 : Int)) w => step_yes hv hls hk2 (ca := ca) (cb := cb) (by rw [hk3, hk4]; exact hh) (da := 0) (db := 13830554455654793216) (a := 0) (b := -1) ⟨FV.c0, by rw [show (16 : Int) * (-1) = -16 from rfl]; exact FV.cMinus⟩ (by omega) (by omega) (by omega) (by omega)
        (L := L3) (by rw [hk3]; omega) (C := (cc : Int)) (by have := hwk L3 hL3l; rw [hk4]; omega) w)
      have HFC := Lib.hid FC
      have HFL := Lib.hid FL
      have HLN := Lib.hid hln
      have HL23 : Hid ((ln + 1 = L.length ∧ L2 = ln) ∨ (¬ ln + 1 = L.length ∧ L3 = ln)) := by
        show _ ∨ _
        rw [hL3, hL2]
        split <;> omega
      have hlo2 : (lo : Int) ≤ 1000 := by omega
      clear hS hv hw hlst hlsti hc1 hln hwk FC FL hg2 hg3 hg4 hgp hL2 hL2l hk2 hk3 hk4 hL3 hL3l hls hf
      go_wp2_with fail
      refine (GL.out _).mono ?_
      rintro e v ⟨rfl, rfl⟩
      go_wp2
      go_loopw [6, 13] (fun r i wq => ∃ q : Nat, q ≤ L.length ∧ r = .bool false ∧ i = .int .i64 (q : Int) ∧ Hid (Below w.heap.size w wq)) (fun _ i _ => L.length - (intOf i).toNat)
      case atStart => exact ⟨0, Nat.zero_le _, rfl, rfl, HWR⟩
      case round =>
        clear HWR HL2
        obtain ⟨q, hq, rfl, rfl, HWR⟩ := hrel
        by_cases hlt : q < L.length
        · obtain ⟨x, HX⟩ : ∃ x, Hid (L[q]? = some x) := ⟨_, List.getElem?_eq_getElem hlt⟩
          have HVX := Lib.hid (HALL.out q x hlt HX.out).1
          have HXL := Lib.hid (HSP.out _ (List.mem_of_getElem? HX.out))
          have GWQ := Lib.hid (fun w => GWD.out q x HX.out w)
          have GCQ := Lib.hid (fun w => refCount_yes HVX.out (by have := HXL.out; omega) w)
          go_wp2_with fail
          refine (GWQ.out _).mono ?_
          rintro e w4 ⟨rfl, hb⟩
          have HW4 := Lib.hid (HWR.out.trans (hb.mono HWR.out.size))
          have hcell := (HL0.out.below HW4.out).cell hlt
          rw [(List.getElem?_eq_some_iff.1 HX.out).2] at hcell
          clear hb
          go_wp2_with fail
          refine (GCQ.out _).mono ?_
          rintro e w5 ⟨rfl, hb⟩
          have HW5 := Lib.hid (HW4.out.trans (hb.mono HW4.out.size))
          clear hb
          go_wp2
          go_roundw
          case rel => exact ⟨q + 1, by omega, rfl, by go_num, HW5⟩
          case measure => simp [intOf]; omega
        · have hqe : ¬ (q : Int) < (L.length : Int) := by omega
          rcases HL23.out with ⟨h1, h2⟩ | ⟨h1, h2⟩
          · subst h2
            have hle : ((L2 : Int) == (L.length : Int) - 1) = true := beq_iff_eq.2 (by omega)
            have hle2 : (L2 : Int) = (L.length : Int) - 1 := by omega
            clear hle2
            go_wp2_with fail
            refine (GRC.out _).mono ?_
            rintro e v ⟨rfl, rfl⟩
            go_wp2_with fail
            refine (GRL.out _).mono ?_
            rintro e v ⟨rfl, rfl⟩
            have HW9 := HWR
            go_wp2_with fail
            refine (GP.out _).mono ?_
            rintro e w10 ⟨rfl, hb⟩
            have HW10 : Hid (Below w.heap.size w w10) := HW9.out.trans (hb.mono HW9.out.size)
            clear hb
            go_wp2_with fail
            refine (GS1.out _).mono ?_
            rintro e w11 ⟨⟨a1, b1, rfl, hp1⟩, hb⟩
            have HW11 : Hid (Below w.heap.size w w11) := HW10.out.trans (hb.mono HW10.out.size)
            have HP1 := Lib.hid hp1
            have R1 := ceq_fv hp1.1 hp1.2 HFC.out HFL.out (r := true) (by simp)
            clear hp1
            clear hb
            go_wp2_with fail
            refine (GS2.out _ _ HP1.out _).mono ?_
            rintro e w12 ⟨⟨a2, b2, rfl, hp2⟩, hb⟩
            have HW12 : Hid (Below w.heap.size w w12) := HW11.out.trans (hb.mono HW11.out.size)
            clear hp2
            clear hb
            go_wp2_with fail
            refine (GQ.out _).mono ?_
            rintro e w13 ⟨⟨a3, b3, rfl, hp3⟩, hb⟩
            have HW13 : Hid (Below w.heap.size w w13) := HW12.out.trans (hb.mono HW12.out.size)
            have R3 := ceq_fv hp3.1 hp3.2 HFC.out HFL.out (r := true) (by simp)
            clear hp3
            clear hb
            go_wp2_with fail
            refine (GRL.out _).mono ?_
            rintro e v ⟨rfl, rfl⟩
            go_wp2_with fail
            refine (GA.out _).mono ?_
            rintro e w14 ⟨rfl, hb⟩
            have HW14 : Hid (Below w.heap.size w w14) := HW13.out.trans (hb.mono HW13.out.size)
            clear hb
            go_wp2
            go_ret
            exact ⟨rfl, HW14.out⟩
          · subst h2
            have hle : ((L3 : Int) == (L.length : Int) - 1) = false := beq_eq_false_iff_ne.2 (by have := HLN.out; omega)
            go_wp2_with fail
            refine (GRC.out _).mono ?_
            rintro e v ⟨rfl, rfl⟩
            go_wp2_with fail
            refine (GRL.out _).mono ?_
            rintro e v ⟨rfl, rfl⟩
            have HW9 := HWR
            go_wp2_with fail
            refine (GP.out _).mono ?_
            rintro e w10 ⟨rfl, hb⟩
            have HW10 : Hid (Below w.heap.size w w10) := HW9.out.trans (hb.mono HW9.out.size)
            clear hb
            go_wp2_with fail
            refine (GS1.out _).mono ?_
            rintro e w11 ⟨⟨a1, b1, rfl, hp1⟩, hb⟩
            have HW11 : Hid (Below w.heap.size w w11) := HW10.out.trans (hb.mono HW10.out.size)
            have HP1 := Lib.hid hp1
            clear hp1
            clear hb
            go_wp2_with fail
            refine (GS2.out _ _ HP1.out _).mono ?_
            rintro e w12 ⟨⟨a2, b2, rfl, hp2⟩, hb⟩
            have HW12 : Hid (Below w.heap.size w w12) := HW11.out.trans (hb.mono HW11.out.size)
            have R2 := ceq_fv hp2.1 hp2.2 HFC.out HFL.out (r := true) (by simp)
            clear hp2
            clear hb
            go_wp2_with fail
            refine (GQ.out _).mono ?_
            rintro e w13 ⟨⟨a3, b3, rfl, hp3⟩, hb⟩
            have HW13 : Hid (Below w.heap.size w w13) := HW12.out.trans (hb.mono HW12.out.size)
            have R3 := ceq_fv hp3.1 hp3.2 HFC.out HFL.out (r := true) (by simp)
            clear hp3
            clear hb
            go_wp2_with fail
            refine (GRL.out _).mono ?_
            rintro e v ⟨rfl, rfl⟩
            go_wp2_with fail
            refine (GA.out _).mono ?_
            rintro e w14 ⟨rfl, hb⟩
            have HW14 : Hid (Below w.heap.size w w14) := HW13.out.trans (hb.mono HW13.out.size)
            clear hb
            go_wp2
            go_ret
            exact ⟨rfl, HW14.out⟩
theorem gridLines_any (A : Option Addr) (L : List (List Nat)) (c : Nat) (line col_ : Int) (hf : FineS L) (_hm : L.length ≤ maxLen) (_h1 : Fit64 line) (_h2 : Fit64 col_) (w : World) (hl : StrsAt w A L) :
    Calls Try.prog 6 #[.slice A L.length c, .int .i64 line, .int .i64 col_] w fun e w' => e = .returned (.bool true) ∧ Below w.heap.size w w' := by
  by_cases h0 : L.length = 0
  · rw [h0]
    exact lines_none A c line col_ w
  by_cases h1 : 20 < L.length
  · exact lines_many A L c line col_ h1 w
  obtain ⟨b, off, rfl, _⟩ := hl.form (by omega)
  by_cases h2 : 400 < words 400 L
  · exact lines_long b off L c line col_ (by omega) (by omega) hf h2 w hl
  · exact lines_main b off L c line col_ (by omega) (by omega) hf (by omega) w hl
end Go.Proofs.Ytgenphpaidanhaa
