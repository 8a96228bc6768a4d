/- The document's own Lines and At: where lines begin, how wide each is, and a place's line and column. Condition: a text of no more than 2^40 bytes. -/
import Derived.Test.YtgenphpaidanhaaRefUtf
import Derived.Test.YtgenphpaidanhaaGridMath
import Derived.Deep.AppendLies
import Derived.Laws.OwnMore
import Derived.BigQuiet
namespace Go.Proofs.Ytgenphpaidanhaa
open Go.RowKit Go.Deep

theorem wpList_append_intL {w : World} {ops : Array Oper} {rest : List Oper} {o : Oper} {a : Act} {Q : Exit → Act → World → Prop} (hgd : o.guard = none) (s x : Operand)
    (ho : o.op = .call { callee := .builtin .append, args := #[s, x], argTypes := #[33, 33] })
    (base : Nat) (v : Value) (vs : List Nat) (hs : a.eval s = v) (hown : w.ownsRow base 3 1 v vs.length (is64 (nz vs))) (g : Nat) (y : Nat) (hx : a.eval x = .slice (some ⟨g, 0, none⟩) 1 1) (hg : w.cell? ⟨g, 0, none⟩ = some (.int .i64 (y : Int)))
    (hlen : vs.length ≤ 1099511627776) (hbase : base ≤ w.heap.size)
    (h : ∀ g' c' w', w'.ownsRow base 3 1 (.slice (some ⟨g', 0, none⟩) (vs ++ [y]).length c') (vs ++ [y]).length (is64 (nz (vs ++ [y]))) → w.grownBy w' v.ownBlock → (v.ownBlock = some g' ∨ g' = w.heap.size) → g' < w'.heap.size →
      wpList Try.prog ops Q rest (a.put o.dst (.slice (some ⟨g', 0, none⟩) (vs ++ [y]).length c')) w') : wpList Try.prog ops Q (o :: rest) a w := by
  obtain ⟨i0, hi0, hz0, hz1, hz2⟩ := info_parts int_info
  refine wpList_append_lies _ hgd s x 33 ho base 3 i0 (.int .i64 0) 1 8 Try.underlying33 hi0 hz0 hz1 hz2 rfl (by omega) v vs.length (is64 (nz vs)) hs hown ⟨g, 0, none⟩ 1 1 [.int .i64 (y : Int)] hx rfl ?_ ?_ (by omega) (by simp only [maxLen]; omega) (by omega) hbase _ rfl ?_
  · intro j u hj
    match j, hj with
    | 0, hj => simp at hj; subst hj; simp [Addr.add]; exact hg
    | (j + 1), hj => simp at hj
  · intro u hu; simp at hu; subst hu; rfl
  · intro g' c' w1 hown1 hgr hl hlt
    have e : vs.length + 1 = (vs ++ [y]).length := by rw [List.length_append]; rfl
    rw [e] at hown1
    rw [e]
    refine h g' c' w1 ?_ hgr hl hlt
    rw [nz_snoc, is64_append]
    exact hown1

/-- What the loop holds: both lists in the making, in blocks of their own. -/
structure LinI (w1 : World) (vs : List Nat) (i g1 c1 : Nat) (vw : Value) (wr : World) : Prop where
  b : wr.ownsRow w1.heap.size 3 1 (.slice (some ⟨g1, 0, none⟩) (bgs vs i).length c1) (bgs vs i).length (is64 (nz (bgs vs i)))
  d : wr.ownsRow w1.heap.size 3 1 vw (wds vs i).length (is64 (nz (wds vs i)))
  ne : vw.ownBlock ≠ some g1
  below : Below w1.heap.size w1 wr

set_option maxHeartbeats 4000000 in
set_option maxRecDepth 100000 in
theorem refLines_yes {l vs : List Nat} (hv : V l vs) (hl : l.length ≤ 1099511627776) (w : World) :
    Calls Try.prog 15 #[.string (bstr l)] w fun e w' => (∃ A c B d, e = .returned (.tuple #[.slice A (bgs vs vs.length).length c, .slice B (wide vs).length d]) ∧ IntsAt w' A (nz (bgs vs vs.length)) ∧ IntsAt w' B (nz (wide vs))) ∧ Below w.heap.size w w' := by
  have HP := Lib.hid (refPoints_any l hv.lt hl w)
  have hvl := hv.length_le
  have H := Lib.hid hv; clear hv
  have HW : Hid (wide vs = wds vs vs.length ++ [col vs vs.length]) := by show _ = _; unfold wide; rfl
  rw [HW.out]
  go_enter Try.func15, Try.ntmps15
  go_wp2_with fail
  refine HP.out.mono ?_
  rintro e w1 ⟨⟨ws, hv, A, c, rfl, ha⟩ | ⟨hn, _⟩, hbel⟩
  · obtain rfl := hv.uniq H.out
    have HA := Lib.hid ha
    have HBEL := Lib.hid hbel
    clear ha hbel hv
    rw [nz_length]
    have HL0 : Hid (LinI w1 ws 0 w1.heap.size 1 (.slice none 0 0) (w1.alloc (.cells #[.int .i64 0] 3))) :=
      ⟨by rw [bgs_zero]; exact World.ownsRow_lit w1 #[.int .i64 0] 1 (Nat.le_refl _) (by simp [maxLen]) rfl, by rw [wds_zero]; exact World.ownsRow_nil _ _ _ _, by simp [Value.ownBlock], (Below.refl _ _).alloc (Nat.le_refl _) _⟩
    go_wp2
    go_loopw [6, 7, 8, 9] (fun vb vw n i wr => ∃ (k g1 c1 : Nat) (A0 : Option Addr) (c0 : Nat), vw = .slice A0 (wds ws k).length c0 ∧ k ≤ ws.length ∧ vb = .slice (some ⟨g1, 0, none⟩) (bgs ws k).length c1 ∧ n = .int .i64 (col ws k : Int) ∧ i = .int .i64 (k : Int) ∧ Hid (LinI w1 ws k g1 c1 (.slice A0 (wds ws k).length c0) wr)) (fun _ _ _ i _ => ws.length - (intOf i).toNat)
    case atStart => exact ⟨0, _, _, none, 0, by rw [wds_zero]; rfl, Nat.zero_le _, by rw [bgs_zero]; rfl, by rw [col_zero]; rfl, rfl, by rw [wds_zero]; exact HL0⟩
    case round =>
      obtain ⟨k, g1, c1, A0, c0, rfl, hk, rfl, rfl, rfl, HL⟩ := hrel
      have HC := Lib.hid (col_le ws k)
      have HLL := Lib.hid (lin_le ws k)
      by_cases hlt : k < ws.length
      · obtain ⟨b, off, rfl, hblt⟩ := HA.out.form (by rw [nz_length]; omega)
        have hcell := (HL.out.below.cell (p := ⟨b, off + k, none⟩) hblt).trans (HA.out.cell (j := k) (by rw [nz_length]; exact hlt))
        have hz : (nz ws)[k]'(by rw [nz_length]; exact hlt) = ((ws[k] : Nat) : Int) := by simp [nz]
        rw [hz] at hcell
        clear hz
        have hsz : w1.heap.size ≤ wr.heap.size := HL.out.below.size
        by_cases h10 : ws[k] = 10
        · have hg : ws[k]? = some 10 := by rw [List.getElem?_eq_getElem hlt, h10]
          have HG := Lib.hid hg
          clear hg
          rw [h10] at hcell
          have hg1 := (HL.out.b.lt g1 rfl).2
          go_wp2_with (at_builtin
                       first
                         | (refine wpList_append_intL rfl (.tmp 27) (.tmp 29) rfl w1.heap.size (.slice A0 (wds ws k).length c0) (wds ws k) rfl (HL.out.d.alloc _) wr.heap.size (col ws k) rfl (by simp) (by rw [wds_length]; have := HLL.out; omega) (by simp; omega) ?_
                            intro g2 c2 w2 hown2 hgr2 hli2 hlt2
                            have HD2 := Lib.hid hown2
                            have HB2 := Lib.hid ((HL.out.b.alloc (.cells #[.int .i64 (col ws k : Int)] 3)).kept hgr2 (.inr (Ne.symm HL.out.ne)))
                            have HBL2 : Hid (Below w1.heap.size w1 w2) := (HL.out.below.alloc hsz _).grown hgr2 (by simp; omega) (fun j hj => (HL.out.d.lt j hj).1)
                            have HNE2 : Hid (g2 ≠ g1) := by
                              show g2 ≠ g1
                              rcases hli2 with h | h
                              · intro e
                                exact HL.out.ne (by rw [h, e])
                              · rw [h]
                                simp
                                omega
                            have hs2 : w1.heap.size ≤ w2.heap.size := HBL2.out.size
                            have HLT2 := Lib.hid hlt2
                            clear hown2 hgr2 hli2 hlt2)
                         | (refine wpList_append_intL rfl (.tmp 31) (.tmp 34) rfl w1.heap.size (.slice (some ⟨g1, 0, none⟩) (bgs ws k).length c1) (bgs ws k) rfl (HB2.out.alloc _) w2.heap.size (k + 1) rfl (by simp) (by rw [bgs_length]; have := HLL.out; omega) (by simp; omega) ?_
                            intro g3 c3 w3 hown3 hgr3 hli3 hlt3
                            have HB3 := Lib.hid hown3
                            have HD3 := Lib.hid ((HD2.out.alloc (.cells #[.int .i64 ((k : Int) + 1)] 3)).kept hgr3 (.inr (by simp [Value.ownBlock]; exact HNE2.out)))
                            have HBL3 : Hid (Below w1.heap.size w1 w3) := (HBL2.out.alloc hs2 _).grown hgr3 (by simp; omega) (fun j hj => (HB2.out.lt j hj).1)
                            have HNE3 : Hid (g2 ≠ g3) := by
                              show g2 ≠ g3
                              rcases hli3 with h | h
                              · simp [Value.ownBlock] at h
                                rw [← h]
                                exact HNE2.out
                              · rw [h]
                                have := HLT2.out
                                simp
                                omega
                            clear hown3 hgr3 hli3 hlt3))
          go_roundw
          case rel =>
            refine ⟨k + 1, g3, c3, some ⟨g2, 0, none⟩, c2, by rw [wds_yes HG.out, List.length_append]; rfl, by omega, by rw [bgs_yes HG.out, List.length_append]; rfl, by rw [col_yes HG.out]; rfl, by go_num, ?_⟩
            exact ⟨by rw [bgs_yes HG.out]; exact HB3.out, by rw [wds_yes HG.out]; exact HD3.out, by simp [Value.ownBlock]; exact HNE3.out, HBL3.out⟩
          case measure => simp [intOf]; omega
        · have hg : ¬ ws[k]? = some 10 := by rw [List.getElem?_eq_getElem hlt]; exact fun e => h10 (Option.some.inj e)
          have HG := Lib.hid hg
          clear hg
          have hne : ((ws[k] : Int) == 10) = false := beq_eq_false_iff_ne.2 (by omega)
          have hcb : (col ws k : Int) < 1099511627776 := by have := HC.out; omega
          go_wp2
          go_roundw
          case rel =>
            refine ⟨k + 1, g1, c1, A0, c0, by rw [wds_no HG.out], by omega, by rw [bgs_no HG.out], by rw [col_no HG.out]; go_num, by go_num, ?_⟩
            exact ⟨by rw [bgs_no HG.out]; exact HL.out.b, by rw [wds_no HG.out]; exact HL.out.d, by rw [wds_no HG.out]; exact HL.out.ne, HL.out.below⟩
          case measure => simp [intOf]; omega
      · obtain rfl : k = ws.length := by omega
        have hsz : w1.heap.size ≤ wr.heap.size := HL.out.below.size
        have hg1 := (HL.out.b.lt g1 rfl).2
        go_wp2_with (at_builtin
                     refine wpList_append_intL rfl (.tmp 39) (.tmp 41) rfl w1.heap.size (.slice A0 (wds ws ws.length).length c0) (wds ws ws.length) rfl (HL.out.d.alloc _) wr.heap.size (col ws ws.length) rfl (by simp) (by rw [wds_length]; have := HLL.out; omega) (by simp; omega) ?_
                     intro g2 c2 w2 hown2 hgr2 hli2 hlt2
                     have HD2 := Lib.hid hown2
                     have HB2 := Lib.hid ((HL.out.b.alloc (.cells #[.int .i64 (col ws ws.length : Int)] 3)).kept hgr2 (.inr (Ne.symm HL.out.ne)))
                     have HBL2 : Hid (Below w1.heap.size w1 w2) := (HL.out.below.alloc hsz _).grown hgr2 (by simp; omega) (fun j hj => (HL.out.d.lt j hj).1)
                     clear hown2 hgr2 hli2 hlt2)
        go_ret2
        exact ⟨⟨_, _, _, _, by rw [List.length_append]; rfl, IntsAt.of_own HB2.out (nz_length _).symm, IntsAt.of_own HD2.out (nz_length _).symm⟩, HBEL.out.trans (HBL2.out.mono HBEL.out.size)⟩
  · exact absurd ⟨vs, H.out⟩ hn

/-- The k-th of some numbers in memory. -/
theorem IntsAt.nat {w : World} {b off : Nat} {l : List Nat} (h : IntsAt w (some ⟨b, off, none⟩) (nz l)) {k x : Nat} (hk : l[k]? = some x) : w.cell? ⟨b, off + k, none⟩ = some (.int .i64 (x : Int)) := by
  have hlt := (List.getElem?_eq_some_iff.1 hk).1
  have h1 := h.cell (j := k) (by rw [nz_length]; exact hlt)
  have h2 : (nz l)[k]'(by rw [nz_length]; exact hlt) = (x : Int) := by
    have := (List.getElem?_eq_some_iff.1 hk).2
    simp [nz, this]
  rw [h2] at h1
  exact h1

set_option maxHeartbeats 4000000 in
set_option maxRecDepth 100000 in
theorem refAt_yes {l vs : List Nat} (hv : V l vs) (hl : l.length ≤ 1099511627776) {p : Nat} (hp : p ≤ vs.length) (w : World) :
    Calls Try.prog 17 #[.string (bstr l), .int .i64 (p : Int)] w fun e w' => e = .returned (.tuple #[.int .i64 (lin vs p : Int), .int .i64 (col vs p : Int)]) ∧ Below w.heap.size w w' := by
  have HL := Lib.hid (refLines_yes hv hl w)
  have hvl := hv.length_le
  have h1 := lin_lst vs hp
  have h2 := lst_le vs
  have h3 := col_le vs p
  have hbl := begins_length vs
  obtain ⟨n, HN⟩ : ∃ n, Hid (vs.length = n) := ⟨_, Lib.hid rfl⟩
  go_enter Try.func17, Try.ntmps17
  go_wp2_with fail
  refine HL.out.mono ?_
  rintro e w1 ⟨⟨A, c, B, d, rfl, ha, _⟩, hbel⟩
  rw [hbl]
  obtain ⟨b, off, rfl, hblt⟩ := ha.form (by rw [nz_length, hbl]; omega)
  have HA := Lib.hid ha
  have HBEL := Lib.hid hbel
  clear ha hbel
  have e0 : ((lst vs + 1 : Nat) : Int) = (lst vs : Int) + 1 := by omega
  go_wp2
  go_loopw [8] (fun k wr => ∃ j : Nat, k = .int .i64 (j : Int) ∧ lin vs p ≤ j ∧ j ≤ lst vs ∧ wr = w1) (fun k _ => (intOf k).toNat)
  case atStart => exact ⟨lst vs, by go_num, h1, Nat.le_refl _, rfl⟩
  case round =>
    obtain ⟨j, rfl, hj1, hj2, rfl⟩ := hrel
    obtain ⟨q, hq⟩ : ∃ q, (bgs vs vs.length)[j]? = some q := ⟨_, List.getElem?_eq_getElem (by rw [hbl]; omega)⟩
    obtain ⟨q1, q2, q3⟩ := bgs_is vs _ _ _ hq
    have hcell := HA.out.nat hq
    have hjl : j < lst vs + 1 := by omega
    by_cases hgt : p < q
    · have hjp : lin vs p < j := by
        rcases Nat.lt_or_eq_of_le hj1 with g | g
        · exact g
        · have := bgs_get vs vs.length p hp
          rw [g, hq] at this
          have := Option.some.inj this
          omega
      go_wp2
      go_roundw
      case rel => exact ⟨j - 1, by go_num, by omega, by omega, trivial⟩
      case measure => simp [intOf]; omega
    · have hjp : lin vs p = j := by
        have := lin_mono vs (show q ≤ p by omega)
        omega
      subst hjp
      have hcol : Hid ((p : Int) - q = (col vs p : Int)) := by
        show _ = _
        have := bgs_get vs vs.length p hp
        rw [hq] at this
        have := Option.some.inj this
        omega
      go_wp2
      go_quiet (fail)
      go_wp2
      go_ret2
      exact ⟨by rw [← hcol.out]; rfl, HBEL.out.trans ⟨rfl, rfl, rfl, Nat.le_refl _, fun _ _ => rfl⟩⟩
end Go.Proofs.Ytgenphpaidanhaa
