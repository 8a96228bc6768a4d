/- The contract of the statements' own made, over the items that they are called with: the bytes of all of them, as the document's own writer tells them. Condition: no more than 2^40 bytes in all. (Merged of 6 texts.) -/
import Derived.Test.YtkapfijokmajlaaQParts
import Derived.Test.YtkapfijokmajlaaQNum
import Derived.Test.YtkapfijokmajlaaQBase
import Derived.Test.YtkapfijokmajlaaQPoint
import Derived.Lib.AppendStr
/- The document's own writer, ropewalkref1.Out: where it lies, and the contract of its Num. Condition: no more than 2^40 bytes. -/
namespace Go.Proofs.Ytkapfijokmajlaa
open Go.RowKit Go.Deep

/-- The block g of two cells holds the writer: the slice of its bytes, a row of the call's own above it, and whether it is bad. -/
def OutAt (W : World) (g : Nat) (c : Ink) (w : World) : Prop :=
  ∃ v, w.rowIs g 64 2 (fun j => if j = 0 then v else .bool c.2) ∧ w.ownsRow (g + 1) 5 1 v c.1.length (u8s c.1) ∧ Below g W w
theorem OutAt.start (W : World) : OutAt W W.heap.size noInk (W.alloc (.cells #[.slice none 0 0, .bool false] 64)) :=
  ⟨.slice none 0 0, World.rowIs_alloc W #[.slice none 0 0, .bool false] 64 _ (fun i hi => by
    match i, hi with
    | 0, _ => rfl
    | 1, _ => rfl
    | (n + 2), hi => simp at hi; omega), by simpa [noInk, u8s] using World.ownsRow_nil _ _ _ _, (Below.refl _ _).alloc (Nat.le_refl _) _⟩

theorem refFits_any (n : Int) (w : World) : Calls Try.prog 67 #[.int .i64 n] w fun e w' => e = .returned (.bool (decide (fitsN n))) ∧ w = w' := by
  by_cases h : fitsN n
  · rw [decide_eq_true h]; exact refFits_yes n h.1 h.2 w
  · rw [decide_eq_false h]; exact refFits_no n (by unfold fitsN at h; omega) w
theorem refPut_any (n : Int) (w : World) : Calls Try.prog 68 #[.int .i64 n] w fun e w' => ∃ A c, e = .returned (.slice A (iNum n).1.length c) ∧ BytesAt w' A (iNum n).1 ∧ Below w.heap.size w w' := by
  by_cases h : fitsN n
  · obtain ⟨m, rfl⟩ := Int.eq_ofNat_of_zero_le h.1
    have hm : m ≤ 1099511627776 := by have := h.2; omega
    rw [iNum_yes hm]
    refine (refPut_yes m hm w).mono ?_
    rintro e w' ⟨v, rfl, hv⟩
    obtain ⟨A, c, rfl, hat⟩ := hv.at_
    exact ⟨A, c, rfl, hat, hv.below⟩
  · have h' : n < 0 ∨ 1099511627776 < n := by unfold fitsN at h; omega
    rw [iNum_no h']
    refine (refPut_no n h' w).mono ?_
    rintro e w' ⟨rfl, rfl⟩
    exact ⟨none, 0, rfl, .inl rfl, Below.refl _ _⟩
theorem iNum_bad (n : Int) : (iNum n).2 = !decide (fitsN n) := by
  unfold iNum
  split
  · rename_i h; simp [h]
  · rename_i h; simp [h]

/-- A row of the call's own, in a later world. -/
theorem own_below {w w' : World} {base : Nat} {e : TypeId} {size : Nat} {v : Value} {n : Nat} {xs : List Value} (h : w.ownsRow base e size v n xs) (hb : Below w.heap.size w w') : w'.ownsRow base e size v n xs := by
  refine ⟨h.1, ?_⟩
  rcases h.2 with h2 | ⟨g', cap, cur, hv, hg, hh, h3, h4, h5⟩
  · exact .inl h2
  · have hlt : g' < w.heap.size := by
      rcases Nat.lt_or_ge g' w.heap.size with hlt | hge
      · exact hlt
      · rw [Array.getElem?_eq_none hge] at hh; cases hh
    exact .inr ⟨g', cap, cur, hv, hg, by rw [hb.block g' hlt]; exact hh, h3, h4, h5⟩

def numS0 : Sched Nat := (.one 7 (.one 8 (.quiet 9 (.one 10 .done))))
def numS : Sched Nat := (.quiet 0 (.quiet 1 (.quiet 5 (.two 2 (.quiet 3 (.two 4 (.one 6 numS0) 6 (.one 4 numS0))) 6 (.one 2 (.quiet 3 (.one 4 numS0)))))))

set_option maxHeartbeats 2000000 in
set_option maxRecDepth 100000 in
theorem refOutNum_any (W : World) (g : Nat) (c : Ink) (n : Int) (hl : c.1.length ≤ 1099511627776) (w : World) (h : OutAt W g c w) :
    Calls Try.prog 34 #[.pointer (some ⟨g, 0, none⟩), .int .i64 n] w fun e w' => e = .returned (.tuple #[]) ∧ OutAt W g (ink c (iNum n)) w' := by
  obtain ⟨v, hr, ho, hb⟩ := h
  obtain ⟨L, B⟩ := c
  simp only at hr ho hl
  have c0 := hr.cell (i := 0) (by omega)
  have c1 := hr.cell (i := 1) (by omega)
  have f0 := hr.frozen 0
  have f1 := hr.frozen 1
  rw [if_pos rfl] at c0
  rw [if_neg (by omega)] at c1
  have HR := Lib.hid hr; clear hr
  have HO := Lib.hid ho; clear ho
  have HB := Lib.hid hb; clear hb
  obtain ⟨A4, k4, rfl⟩ := own_slice HO.out
  have GP := Lib.hid (fun w => refPut_any n w)
  have GF := Lib.hid (fun w => refFits_any n w)
  have HBAD := Lib.hid (iNum_bad n)
  have HL6 := Lib.hid (iNum_length n)
  obtain ⟨F, HF⟩ : ∃ F, Hid (decide (fitsN n) = F) := ⟨_, rfl⟩
  rw [HF.out] at GF HBAD
  obtain ⟨X, HX⟩ : ∃ X, Hid (iNum n = X) := ⟨_, rfl⟩
  rw [HX.out] at GP HBAD HL6 ⊢
  obtain ⟨N, XB⟩ := X
  simp only at HBAD
  obtain rfl := HBAD.out
  simp only at GP HL6
  cases B <;> cases F
  case false.false =>
    go_enter Try.func34, Try.ntmps34
    have HR0 : Hid ((w.setCell ⟨g, 1, none⟩ (.bool true)).rowIs g 64 2 (fun j => if j = 0 then .slice A4 L.length k4 else .bool true)) := by
      refine (HR.out.set 1 (.bool true)).congr fun i hi => ?_
      by_cases hi0 : i = 0
      · subst hi0; rfl
      · rw [if_pos (by omega), if_neg hi0]
    have HO0 := Lib.hid (ownsRow_setCell_below HO.out (a := ⟨g, 1, none⟩) (by show g < g + 1; omega) (.bool true))
    have HB0 := Lib.hid (HB.out.setCell (p := ⟨g, 1, none⟩) (Nat.le_refl g) (.bool true))
    go_wp2_with (go_at_call 67; refine (GF.out _).mono ?_; rintro e w' ⟨rfl, rfl⟩)
    clear c0 c1 f0 f1
    refine Sched.wp_region_free numS (by kernel_rfl) (by kernel_rfl) (fun _ _ d _ _ h => by cases d <;> exact h) ?_
    generalize w.setCell ⟨g, 1, none⟩ (.bool true) = w0 at HR0 HO0 HB0 ⊢
    simp only [numS, Sched.picked, List.getElem?_cons_succ, List.getElem?_cons_zero, Option.getD_some]
    repeat (first | (refine Sched.walkF_quiet (by rfl) (fun K hK => ?_); go_big_quiet_op; refine hK _ ?_; clear hK K) | (refine Sched.walkF_skip_quiet (by rfl) ?_; simp only [Act.put, List.setIfInBounds_toArray, List.set_cons_zero, List.set_cons_succ]))
    refine Sched.walkF_two ?_ ?_
    · refine Sched.walkF_one (by rfl) (fun K hK => ?_)
      go_simp
      refine hK _ _ ?_
      clear hK K
      repeat (first | (refine Sched.walkF_quiet (by rfl) (fun K hK => ?_); go_big_quiet_op; refine hK _ ?_; clear hK K) | (refine Sched.walkF_skip_quiet (by rfl) ?_; simp only [Act.put, List.setIfInBounds_toArray, List.set_cons_zero, List.set_cons_succ]))
      refine Sched.walkF_two ?_ ?_
      · have hld := HR0.out.drew.cell (i := 0) (by omega)
        refine Sched.walkF_one (by rfl) (fun K hK => ?_)
        go_simp
        refine hK _ _ ?_
        clear hK K hld
        repeat (first | (refine Sched.walkF_quiet (by rfl) (fun K hK => ?_); go_big_quiet_op; refine hK _ ?_; clear hK K) | (refine Sched.walkF_skip_quiet (by rfl) ?_; simp only [Act.put, List.setIfInBounds_toArray, List.set_cons_zero, List.set_cons_succ]))
        refine Sched.walkF_one (by rfl) (fun K hK => ?_)
        go_simp
        refine (GP.out _).mono ?_
        rintro e w1 ⟨A2, k2, rfl, hat2, hb2⟩
        have HAT2 := Lib.hid hat2
        have HB2 := Lib.hid hb2
        refine hK _ _ ?_
        clear hK K hat2 hb2
        have HR1 := Lib.hid (HR0.out.drew.of_block (w' := w1) (HB2.out.block g HR0.out.drew.lt))
        have HO1 := Lib.hid (own_below (w := w0.drew) HO0.out HB2.out)
        repeat (first | (refine Sched.walkF_quiet (by rfl) (fun K hK => ?_); go_big_quiet_op; refine hK _ ?_; clear hK K) | (refine Sched.walkF_skip_quiet (by rfl) ?_; simp only [Act.put, List.setIfInBounds_toArray, List.set_cons_zero, List.set_cons_succ]))
        simp only [numS0, Sched.picked, List.getElem?_cons_succ, List.getElem?_cons_zero, Option.getD_some]
        refine Sched.walkF_one (by rfl) (fun K hK => ?_)
        refine wp_append_bytes (.tmp 20) (.tmp 22) rfl (g + 1) (.slice A4 L.length k4) L.length L rfl HO1.out A2 N k2 rfl HAT2.out (by have := HL6.out; omega) (by have := HR1.out.lt; omega) ?_
        intro v3 w3 hap
        have HAP := Lib.hid hap
        refine hK _ _ ?_
        clear hK K hap
        have HB3 : Hid (Below (g + 1) w1 w3) := ((Below.refl (g + 1) w1).grown HAP.out.2.1 (by have := HR1.out.lt; omega) (fun j hj => (HO1.out.lt j hj).1))
        have HR3 := Lib.hid (HR1.out.of_block (w' := w3) (HB3.out.block g (by omega)))
        repeat (first | (refine Sched.walkF_quiet (by rfl) (fun K hK => ?_); go_big_quiet_op; refine hK _ ?_; clear hK K) | (refine Sched.walkF_skip_quiet (by rfl) ?_; simp only [Act.put, List.setIfInBounds_toArray, List.set_cons_zero, List.set_cons_succ]))
        refine Sched.walkF_one (by rfl) (fun K hK => ?_)
        go_simp
        refine hK _ _ ?_
        clear hK K
        repeat (first | (refine Sched.walkF_quiet (by rfl) (fun K hK => ?_); go_big_quiet_op; refine hK _ ?_; clear hK K) | (refine Sched.walkF_skip_quiet (by rfl) ?_; simp only [Act.put, List.setIfInBounds_toArray, List.set_cons_zero, List.set_cons_succ]))
        have hf3 := HR3.out.frozen 0
        have hc3 := HR3.out.cell (i := 0) (by omega)
        obtain ⟨A5, k5, rfl⟩ := own_slice HAP.out.1
        refine Sched.walkF_one (by rfl) (fun K hK => ?_)
        go_simp
        refine hK _ _ ?_
        clear hK K hf3 hc3
        refine Sched.walkF_done ?_
        go_wp2
        go_end0
        refine ⟨rfl, .slice A5 (L.length + N.length) k5, (HR3.out.set 0 _).congr fun i hi => ?_, ?_, ?_⟩
        · by_cases hi0 : i = 0
          · rw [if_pos hi0, if_pos hi0]
          · rw [if_neg hi0, if_neg hi0, if_neg hi0]; rfl
        · show World.ownsRow _ _ _ _ _ (L ++ N).length (u8s (L ++ N))
          rw [List.length_append]
          exact ownsRow_setCell_below HAP.out.1 (by show g < g + 1; omega) _
        · exact ((HB0.out.drew.trans (HB2.out.mono (Nat.le_of_lt HR0.out.drew.lt))).trans (HB3.out.mono (Nat.le_succ _))).setCell (Nat.le_refl _) _
      · refine Sched.walkF_one (by rfl) (fun K hK => ?_)
        go_simp
        refine (GP.out _).mono ?_
        rintro e w1 ⟨A2, k2, rfl, hat2, hb2⟩
        have HAT2 := Lib.hid hat2
        have HB2 := Lib.hid hb2
        refine hK _ _ ?_
        clear hK K hat2 hb2
        have HR1 := Lib.hid (HR0.out.drew.of_block (w' := w1) (HB2.out.block g HR0.out.drew.lt))
        have HO1 := Lib.hid (own_below (w := w0.drew) HO0.out HB2.out)
        repeat (first | (refine Sched.walkF_quiet (by rfl) (fun K hK => ?_); go_big_quiet_op; refine hK _ ?_; clear hK K) | (refine Sched.walkF_skip_quiet (by rfl) ?_; simp only [Act.put, List.setIfInBounds_toArray, List.set_cons_zero, List.set_cons_succ]))
        have hld := HR1.out.cell (i := 0) (by omega)
        refine Sched.walkF_one (by rfl) (fun K hK => ?_)
        go_simp
        refine hK _ _ ?_
        clear hK K hld
        repeat (first | (refine Sched.walkF_quiet (by rfl) (fun K hK => ?_); go_big_quiet_op; refine hK _ ?_; clear hK K) | (refine Sched.walkF_skip_quiet (by rfl) ?_; simp only [Act.put, List.setIfInBounds_toArray, List.set_cons_zero, List.set_cons_succ]))
        simp only [numS0, Sched.picked, List.getElem?_cons_succ, List.getElem?_cons_zero, Option.getD_some]
        refine Sched.walkF_one (by rfl) (fun K hK => ?_)
        refine wp_append_bytes (.tmp 20) (.tmp 22) rfl (g + 1) (.slice A4 L.length k4) L.length L rfl HO1.out A2 N k2 rfl HAT2.out (by have := HL6.out; omega) (by have := HR1.out.lt; omega) ?_
        intro v3 w3 hap
        have HAP := Lib.hid hap
        refine hK _ _ ?_
        clear hK K hap
        have HB3 : Hid (Below (g + 1) w1 w3) := ((Below.refl (g + 1) w1).grown HAP.out.2.1 (by have := HR1.out.lt; omega) (fun j hj => (HO1.out.lt j hj).1))
        have HR3 := Lib.hid (HR1.out.of_block (w' := w3) (HB3.out.block g (by omega)))
        repeat (first | (refine Sched.walkF_quiet (by rfl) (fun K hK => ?_); go_big_quiet_op; refine hK _ ?_; clear hK K) | (refine Sched.walkF_skip_quiet (by rfl) ?_; simp only [Act.put, List.setIfInBounds_toArray, List.set_cons_zero, List.set_cons_succ]))
        refine Sched.walkF_one (by rfl) (fun K hK => ?_)
        go_simp
        refine hK _ _ ?_
        clear hK K
        repeat (first | (refine Sched.walkF_quiet (by rfl) (fun K hK => ?_); go_big_quiet_op; refine hK _ ?_; clear hK K) | (refine Sched.walkF_skip_quiet (by rfl) ?_; simp only [Act.put, List.setIfInBounds_toArray, List.set_cons_zero, List.set_cons_succ]))
        have hf3 := HR3.out.frozen 0
        have hc3 := HR3.out.cell (i := 0) (by omega)
        obtain ⟨A5, k5, rfl⟩ := own_slice HAP.out.1
        refine Sched.walkF_one (by rfl) (fun K hK => ?_)
        go_simp
        refine hK _ _ ?_
        clear hK K hf3 hc3
        refine Sched.walkF_done ?_
        go_wp2
        go_end0
        refine ⟨rfl, .slice A5 (L.length + N.length) k5, (HR3.out.set 0 _).congr fun i hi => ?_, ?_, ?_⟩
        · by_cases hi0 : i = 0
          · rw [if_pos hi0, if_pos hi0]
          · rw [if_neg hi0, if_neg hi0, if_neg hi0]; rfl
        · show World.ownsRow _ _ _ _ _ (L ++ N).length (u8s (L ++ N))
          rw [List.length_append]
          exact ownsRow_setCell_below HAP.out.1 (by show g < g + 1; omega) _
        · exact ((HB0.out.drew.trans (HB2.out.mono (Nat.le_of_lt HR0.out.drew.lt))).trans (HB3.out.mono (Nat.le_succ _))).setCell (Nat.le_refl _) _
    · refine Sched.walkF_one (by rfl) (fun K hK => ?_)
      go_simp
      refine (GP.out _).mono ?_
      rintro e w1 ⟨A2, k2, rfl, hat2, hb2⟩
      have HAT2 := Lib.hid hat2
      have HB2 := Lib.hid hb2
      refine hK _ _ ?_
      clear hK K hat2 hb2
      have HR1 := Lib.hid (HR0.out.drew.of_block (w' := w1) (HB2.out.block g HR0.out.drew.lt))
      have HO1 := Lib.hid (own_below (w := w0.drew) HO0.out HB2.out)
      repeat (first | (refine Sched.walkF_quiet (by rfl) (fun K hK => ?_); go_big_quiet_op; refine hK _ ?_; clear hK K) | (refine Sched.walkF_skip_quiet (by rfl) ?_; simp only [Act.put, List.setIfInBounds_toArray, List.set_cons_zero, List.set_cons_succ]))
      refine Sched.walkF_one (by rfl) (fun K hK => ?_)
      go_simp
      refine hK _ _ ?_
      clear hK K
      repeat (first | (refine Sched.walkF_quiet (by rfl) (fun K hK => ?_); go_big_quiet_op; refine hK _ ?_; clear hK K) | (refine Sched.walkF_skip_quiet (by rfl) ?_; simp only [Act.put, List.setIfInBounds_toArray, List.set_cons_zero, List.set_cons_succ]))
      have hld := HR1.out.cell (i := 0) (by omega)
      refine Sched.walkF_one (by rfl) (fun K hK => ?_)
      go_simp
      refine hK _ _ ?_
      clear hK K hld
      repeat (first | (refine Sched.walkF_quiet (by rfl) (fun K hK => ?_); go_big_quiet_op; refine hK _ ?_; clear hK K) | (refine Sched.walkF_skip_quiet (by rfl) ?_; simp only [Act.put, List.setIfInBounds_toArray, List.set_cons_zero, List.set_cons_succ]))
      simp only [numS0, Sched.picked, List.getElem?_cons_succ, List.getElem?_cons_zero, Option.getD_some]
      refine Sched.walkF_one (by rfl) (fun K hK => ?_)
      refine wp_append_bytes (.tmp 20) (.tmp 22) rfl (g + 1) (.slice A4 L.length k4) L.length L rfl HO1.out A2 N k2 rfl HAT2.out (by have := HL6.out; omega) (by have := HR1.out.lt; omega) ?_
      intro v3 w3 hap
      have HAP := Lib.hid hap
      refine hK _ _ ?_
      clear hK K hap
      have HB3 : Hid (Below (g + 1) w1 w3) := ((Below.refl (g + 1) w1).grown HAP.out.2.1 (by have := HR1.out.lt; omega) (fun j hj => (HO1.out.lt j hj).1))
      have HR3 := Lib.hid (HR1.out.of_block (w' := w3) (HB3.out.block g (by omega)))
      repeat (first | (refine Sched.walkF_quiet (by rfl) (fun K hK => ?_); go_big_quiet_op; refine hK _ ?_; clear hK K) | (refine Sched.walkF_skip_quiet (by rfl) ?_; simp only [Act.put, List.setIfInBounds_toArray, List.set_cons_zero, List.set_cons_succ]))
      refine Sched.walkF_one (by rfl) (fun K hK => ?_)
      go_simp
      refine hK _ _ ?_
      clear hK K
      repeat (first | (refine Sched.walkF_quiet (by rfl) (fun K hK => ?_); go_big_quiet_op; refine hK _ ?_; clear hK K) | (refine Sched.walkF_skip_quiet (by rfl) ?_; simp only [Act.put, List.setIfInBounds_toArray, List.set_cons_zero, List.set_cons_succ]))
      have hf3 := HR3.out.frozen 0
      have hc3 := HR3.out.cell (i := 0) (by omega)
      obtain ⟨A5, k5, rfl⟩ := own_slice HAP.out.1
      refine Sched.walkF_one (by rfl) (fun K hK => ?_)
      go_simp
      refine hK _ _ ?_
      clear hK K hf3 hc3
      refine Sched.walkF_done ?_
      go_wp2
      go_end0
      refine ⟨rfl, .slice A5 (L.length + N.length) k5, (HR3.out.set 0 _).congr fun i hi => ?_, ?_, ?_⟩
      · by_cases hi0 : i = 0
        · rw [if_pos hi0, if_pos hi0]
        · rw [if_neg hi0, if_neg hi0, if_neg hi0]; rfl
      · show World.ownsRow _ _ _ _ _ (L ++ N).length (u8s (L ++ N))
        rw [List.length_append]
        exact ownsRow_setCell_below HAP.out.1 (by show g < g + 1; omega) _
      · exact ((HB0.out.drew.trans (HB2.out.mono (Nat.le_of_lt HR0.out.drew.lt))).trans (HB3.out.mono (Nat.le_succ _))).setCell (Nat.le_refl _) _
  case false.true =>
    go_enter Try.func34, Try.ntmps34
    have HR0 : Hid ((w.setCell ⟨g, 1, none⟩ (.bool false)).rowIs g 64 2 (fun j => if j = 0 then .slice A4 L.length k4 else .bool false)) := by
      refine (HR.out.set 1 (.bool false)).congr fun i hi => ?_
      by_cases hi0 : i = 0
      · subst hi0; rfl
      · rw [if_pos (by omega), if_neg hi0]
    have HO0 := Lib.hid (ownsRow_setCell_below HO.out (a := ⟨g, 1, none⟩) (by show g < g + 1; omega) (.bool false))
    have HB0 := Lib.hid (HB.out.setCell (p := ⟨g, 1, none⟩) (Nat.le_refl g) (.bool false))
    go_wp2_with (go_at_call 67; refine (GF.out _).mono ?_; rintro e w' ⟨rfl, rfl⟩)
    clear c0 c1 f0 f1
    refine Sched.wp_region_free numS (by kernel_rfl) (by kernel_rfl) (fun _ _ d _ _ h => by cases d <;> exact h) ?_
    generalize w.setCell ⟨g, 1, none⟩ (.bool false) = w0 at HR0 HO0 HB0 ⊢
    simp only [numS, Sched.picked, List.getElem?_cons_succ, List.getElem?_cons_zero, Option.getD_some]
    repeat (first | (refine Sched.walkF_quiet (by rfl) (fun K hK => ?_); go_big_quiet_op; refine hK _ ?_; clear hK K) | (refine Sched.walkF_skip_quiet (by rfl) ?_; simp only [Act.put, List.setIfInBounds_toArray, List.set_cons_zero, List.set_cons_succ]))
    refine Sched.walkF_two ?_ ?_
    · refine Sched.walkF_one (by rfl) (fun K hK => ?_)
      go_simp
      refine hK _ _ ?_
      clear hK K
      repeat (first | (refine Sched.walkF_quiet (by rfl) (fun K hK => ?_); go_big_quiet_op; refine hK _ ?_; clear hK K) | (refine Sched.walkF_skip_quiet (by rfl) ?_; simp only [Act.put, List.setIfInBounds_toArray, List.set_cons_zero, List.set_cons_succ]))
      refine Sched.walkF_two ?_ ?_
      · have hld := HR0.out.drew.cell (i := 0) (by omega)
        refine Sched.walkF_one (by rfl) (fun K hK => ?_)
        go_simp
        refine hK _ _ ?_
        clear hK K hld
        repeat (first | (refine Sched.walkF_quiet (by rfl) (fun K hK => ?_); go_big_quiet_op; refine hK _ ?_; clear hK K) | (refine Sched.walkF_skip_quiet (by rfl) ?_; simp only [Act.put, List.setIfInBounds_toArray, List.set_cons_zero, List.set_cons_succ]))
        refine Sched.walkF_one (by rfl) (fun K hK => ?_)
        go_simp
        refine (GP.out _).mono ?_
        rintro e w1 ⟨A2, k2, rfl, hat2, hb2⟩
        have HAT2 := Lib.hid hat2
        have HB2 := Lib.hid hb2
        refine hK _ _ ?_
        clear hK K hat2 hb2
        have HR1 := Lib.hid (HR0.out.drew.of_block (w' := w1) (HB2.out.block g HR0.out.drew.lt))
        have HO1 := Lib.hid (own_below (w := w0.drew) HO0.out HB2.out)
        repeat (first | (refine Sched.walkF_quiet (by rfl) (fun K hK => ?_); go_big_quiet_op; refine hK _ ?_; clear hK K) | (refine Sched.walkF_skip_quiet (by rfl) ?_; simp only [Act.put, List.setIfInBounds_toArray, List.set_cons_zero, List.set_cons_succ]))
        simp only [numS0, Sched.picked, List.getElem?_cons_succ, List.getElem?_cons_zero, Option.getD_some]
        refine Sched.walkF_one (by rfl) (fun K hK => ?_)
        refine wp_append_bytes (.tmp 20) (.tmp 22) rfl (g + 1) (.slice A4 L.length k4) L.length L rfl HO1.out A2 N k2 rfl HAT2.out (by have := HL6.out; omega) (by have := HR1.out.lt; omega) ?_
        intro v3 w3 hap
        have HAP := Lib.hid hap
        refine hK _ _ ?_
        clear hK K hap
        have HB3 : Hid (Below (g + 1) w1 w3) := ((Below.refl (g + 1) w1).grown HAP.out.2.1 (by have := HR1.out.lt; omega) (fun j hj => (HO1.out.lt j hj).1))
        have HR3 := Lib.hid (HR1.out.of_block (w' := w3) (HB3.out.block g (by omega)))
        repeat (first | (refine Sched.walkF_quiet (by rfl) (fun K hK => ?_); go_big_quiet_op; refine hK _ ?_; clear hK K) | (refine Sched.walkF_skip_quiet (by rfl) ?_; simp only [Act.put, List.setIfInBounds_toArray, List.set_cons_zero, List.set_cons_succ]))
        refine Sched.walkF_one (by rfl) (fun K hK => ?_)
        go_simp
        refine hK _ _ ?_
        clear hK K
        repeat (first | (refine Sched.walkF_quiet (by rfl) (fun K hK => ?_); go_big_quiet_op; refine hK _ ?_; clear hK K) | (refine Sched.walkF_skip_quiet (by rfl) ?_; simp only [Act.put, List.setIfInBounds_toArray, List.set_cons_zero, List.set_cons_succ]))
        have hf3 := HR3.out.frozen 0
        have hc3 := HR3.out.cell (i := 0) (by omega)
        obtain ⟨A5, k5, rfl⟩ := own_slice HAP.out.1
        refine Sched.walkF_one (by rfl) (fun K hK => ?_)
        go_simp
        refine hK _ _ ?_
        clear hK K hf3 hc3
        refine Sched.walkF_done ?_
        go_wp2
        go_end0
        refine ⟨rfl, .slice A5 (L.length + N.length) k5, (HR3.out.set 0 _).congr fun i hi => ?_, ?_, ?_⟩
        · by_cases hi0 : i = 0
          · rw [if_pos hi0, if_pos hi0]
          · rw [if_neg hi0, if_neg hi0, if_neg hi0]; rfl
        · show World.ownsRow _ _ _ _ _ (L ++ N).length (u8s (L ++ N))
          rw [List.length_append]
          exact ownsRow_setCell_below HAP.out.1 (by show g < g + 1; omega) _
        · exact ((HB0.out.drew.trans (HB2.out.mono (Nat.le_of_lt HR0.out.drew.lt))).trans (HB3.out.mono (Nat.le_succ _))).setCell (Nat.le_refl _) _
      · refine Sched.walkF_one (by rfl) (fun K hK => ?_)
        go_simp
        refine (GP.out _).mono ?_
        rintro e w1 ⟨A2, k2, rfl, hat2, hb2⟩
        have HAT2 := Lib.hid hat2
        have HB2 := Lib.hid hb2
        refine hK _ _ ?_
        clear hK K hat2 hb2
        have HR1 := Lib.hid (HR0.out.drew.of_block (w' := w1) (HB2.out.block g HR0.out.drew.lt))
        have HO1 := Lib.hid (own_below (w := w0.drew) HO0.out HB2.out)
        repeat (first | (refine Sched.walkF_quiet (by rfl) (fun K hK => ?_); go_big_quiet_op; refine hK _ ?_; clear hK K) | (refine Sched.walkF_skip_quiet (by rfl) ?_; simp only [Act.put, List.setIfInBounds_toArray, List.set_cons_zero, List.set_cons_succ]))
        have hld := HR1.out.cell (i := 0) (by omega)
        refine Sched.walkF_one (by rfl) (fun K hK => ?_)
        go_simp
        refine hK _ _ ?_
        clear hK K hld
        repeat (first | (refine Sched.walkF_quiet (by rfl) (fun K hK => ?_); go_big_quiet_op; refine hK _ ?_; clear hK K) | (refine Sched.walkF_skip_quiet (by rfl) ?_; simp only [Act.put, List.setIfInBounds_toArray, List.set_cons_zero, List.set_cons_succ]))
        simp only [numS0, Sched.picked, List.getElem?_cons_succ, List.getElem?_cons_zero, Option.getD_some]
        refine Sched.walkF_one (by rfl) (fun K hK => ?_)
        refine wp_append_bytes (.tmp 20) (.tmp 22) rfl (g + 1) (.slice A4 L.length k4) L.length L rfl HO1.out A2 N k2 rfl HAT2.out (by have := HL6.out; omega) (by have := HR1.out.lt; omega) ?_
        intro v3 w3 hap
        have HAP := Lib.hid hap
        refine hK _ _ ?_
        clear hK K hap
        have HB3 : Hid (Below (g + 1) w1 w3) := ((Below.refl (g + 1) w1).grown HAP.out.2.1 (by have := HR1.out.lt; omega) (fun j hj => (HO1.out.lt j hj).1))
        have HR3 := Lib.hid (HR1.out.of_block (w' := w3) (HB3.out.block g (by omega)))
        repeat (first | (refine Sched.walkF_quiet (by rfl) (fun K hK => ?_); go_big_quiet_op; refine hK _ ?_; clear hK K) | (refine Sched.walkF_skip_quiet (by rfl) ?_; simp only [Act.put, List.setIfInBounds_toArray, List.set_cons_zero, List.set_cons_succ]))
        refine Sched.walkF_one (by rfl) (fun K hK => ?_)
        go_simp
        refine hK _ _ ?_
        clear hK K
        repeat (first | (refine Sched.walkF_quiet (by rfl) (fun K hK => ?_); go_big_quiet_op; refine hK _ ?_; clear hK K) | (refine Sched.walkF_skip_quiet (by rfl) ?_; simp only [Act.put, List.setIfInBounds_toArray, List.set_cons_zero, List.set_cons_succ]))
        have hf3 := HR3.out.frozen 0
        have hc3 := HR3.out.cell (i := 0) (by omega)
        obtain ⟨A5, k5, rfl⟩ := own_slice HAP.out.1
        refine Sched.walkF_one (by rfl) (fun K hK => ?_)
        go_simp
        refine hK _ _ ?_
        clear hK K hf3 hc3
        refine Sched.walkF_done ?_
        go_wp2
        go_end0
        refine ⟨rfl, .slice A5 (L.length + N.length) k5, (HR3.out.set 0 _).congr fun i hi => ?_, ?_, ?_⟩
        · by_cases hi0 : i = 0
          · rw [if_pos hi0, if_pos hi0]
          · rw [if_neg hi0, if_neg hi0, if_neg hi0]; rfl
        · show World.ownsRow _ _ _ _ _ (L ++ N).length (u8s (L ++ N))
          rw [List.length_append]
          exact ownsRow_setCell_below HAP.out.1 (by show g < g + 1; omega) _
        · exact ((HB0.out.drew.trans (HB2.out.mono (Nat.le_of_lt HR0.out.drew.lt))).trans (HB3.out.mono (Nat.le_succ _))).setCell (Nat.le_refl _) _
    · refine Sched.walkF_one (by rfl) (fun K hK => ?_)
      go_simp
      refine (GP.out _).mono ?_
      rintro e w1 ⟨A2, k2, rfl, hat2, hb2⟩
      have HAT2 := Lib.hid hat2
      have HB2 := Lib.hid hb2
      refine hK _ _ ?_
      clear hK K hat2 hb2
      have HR1 := Lib.hid (HR0.out.drew.of_block (w' := w1) (HB2.out.block g HR0.out.drew.lt))
      have HO1 := Lib.hid (own_below (w := w0.drew) HO0.out HB2.out)
      repeat (first | (refine Sched.walkF_quiet (by rfl) (fun K hK => ?_); go_big_quiet_op; refine hK _ ?_; clear hK K) | (refine Sched.walkF_skip_quiet (by rfl) ?_; simp only [Act.put, List.setIfInBounds_toArray, List.set_cons_zero, List.set_cons_succ]))
      refine Sched.walkF_one (by rfl) (fun K hK => ?_)
      go_simp
      refine hK _ _ ?_
      clear hK K
      repeat (first | (refine Sched.walkF_quiet (by rfl) (fun K hK => ?_); go_big_quiet_op; refine hK _ ?_; clear hK K) | (refine Sched.walkF_skip_quiet (by rfl) ?_; simp only [Act.put, List.setIfInBounds_toArray, List.set_cons_zero, List.set_cons_succ]))
      have hld := HR1.out.cell (i := 0) (by omega)
      refine Sched.walkF_one (by rfl) (fun K hK => ?_)
      go_simp
      refine hK _ _ ?_
      clear hK K hld
      repeat (first | (refine Sched.walkF_quiet (by rfl) (fun K hK => ?_); go_big_quiet_op; refine hK _ ?_; clear hK K) | (refine Sched.walkF_skip_quiet (by rfl) ?_; simp only [Act.put, List.setIfInBounds_toArray, List.set_cons_zero, List.set_cons_succ]))
      simp only [numS0, Sched.picked, List.getElem?_cons_succ, List.getElem?_cons_zero, Option.getD_some]
      refine Sched.walkF_one (by rfl) (fun K hK => ?_)
      refine wp_append_bytes (.tmp 20) (.tmp 22) rfl (g + 1) (.slice A4 L.length k4) L.length L rfl HO1.out A2 N k2 rfl HAT2.out (by have := HL6.out; omega) (by have := HR1.out.lt; omega) ?_
      intro v3 w3 hap
      have HAP := Lib.hid hap
      refine hK _ _ ?_
      clear hK K hap
      have HB3 : Hid (Below (g + 1) w1 w3) := ((Below.refl (g + 1) w1).grown HAP.out.2.1 (by have := HR1.out.lt; omega) (fun j hj => (HO1.out.lt j hj).1))
      have HR3 := Lib.hid (HR1.out.of_block (w' := w3) (HB3.out.block g (by omega)))
      repeat (first | (refine Sched.walkF_quiet (by rfl) (fun K hK => ?_); go_big_quiet_op; refine hK _ ?_; clear hK K) | (refine Sched.walkF_skip_quiet (by rfl) ?_; simp only [Act.put, List.setIfInBounds_toArray, List.set_cons_zero, List.set_cons_succ]))
      refine Sched.walkF_one (by rfl) (fun K hK => ?_)
      go_simp
      refine hK _ _ ?_
      clear hK K
      repeat (first | (refine Sched.walkF_quiet (by rfl) (fun K hK => ?_); go_big_quiet_op; refine hK _ ?_; clear hK K) | (refine Sched.walkF_skip_quiet (by rfl) ?_; simp only [Act.put, List.setIfInBounds_toArray, List.set_cons_zero, List.set_cons_succ]))
      have hf3 := HR3.out.frozen 0
      have hc3 := HR3.out.cell (i := 0) (by omega)
      obtain ⟨A5, k5, rfl⟩ := own_slice HAP.out.1
      refine Sched.walkF_one (by rfl) (fun K hK => ?_)
      go_simp
      refine hK _ _ ?_
      clear hK K hf3 hc3
      refine Sched.walkF_done ?_
      go_wp2
      go_end0
      refine ⟨rfl, .slice A5 (L.length + N.length) k5, (HR3.out.set 0 _).congr fun i hi => ?_, ?_, ?_⟩
      · by_cases hi0 : i = 0
        · rw [if_pos hi0, if_pos hi0]
        · rw [if_neg hi0, if_neg hi0, if_neg hi0]; rfl
      · show World.ownsRow _ _ _ _ _ (L ++ N).length (u8s (L ++ N))
        rw [List.length_append]
        exact ownsRow_setCell_below HAP.out.1 (by show g < g + 1; omega) _
      · exact ((HB0.out.drew.trans (HB2.out.mono (Nat.le_of_lt HR0.out.drew.lt))).trans (HB3.out.mono (Nat.le_succ _))).setCell (Nat.le_refl _) _
  case true.false =>
    go_enter Try.func34, Try.ntmps34
    have HR0 : Hid ((w.setCell ⟨g, 1, none⟩ (.bool true)).rowIs g 64 2 (fun j => if j = 0 then .slice A4 L.length k4 else .bool true)) := by
      refine (HR.out.set 1 (.bool true)).congr fun i hi => ?_
      by_cases hi0 : i = 0
      · subst hi0; rfl
      · rw [if_pos (by omega), if_neg hi0]
    have HO0 := Lib.hid (ownsRow_setCell_below HO.out (a := ⟨g, 1, none⟩) (by show g < g + 1; omega) (.bool true))
    have HB0 := Lib.hid (HB.out.setCell (p := ⟨g, 1, none⟩) (Nat.le_refl g) (.bool true))
    go_wp2_with (go_at_call 67; refine (GF.out _).mono ?_; rintro e w' ⟨rfl, rfl⟩)
    clear c0 c1 f0 f1
    refine Sched.wp_region_free numS (by kernel_rfl) (by kernel_rfl) (fun _ _ d _ _ h => by cases d <;> exact h) ?_
    generalize w.setCell ⟨g, 1, none⟩ (.bool true) = w0 at HR0 HO0 HB0 ⊢
    simp only [numS, Sched.picked, List.getElem?_cons_succ, List.getElem?_cons_zero, Option.getD_some]
    repeat (first | (refine Sched.walkF_quiet (by rfl) (fun K hK => ?_); go_big_quiet_op; refine hK _ ?_; clear hK K) | (refine Sched.walkF_skip_quiet (by rfl) ?_; simp only [Act.put, List.setIfInBounds_toArray, List.set_cons_zero, List.set_cons_succ]))
    refine Sched.walkF_two ?_ ?_
    · refine Sched.walkF_one (by rfl) (fun K hK => ?_)
      go_simp
      refine hK _ _ ?_
      clear hK K
      repeat (first | (refine Sched.walkF_quiet (by rfl) (fun K hK => ?_); go_big_quiet_op; refine hK _ ?_; clear hK K) | (refine Sched.walkF_skip_quiet (by rfl) ?_; simp only [Act.put, List.setIfInBounds_toArray, List.set_cons_zero, List.set_cons_succ]))
      refine Sched.walkF_two ?_ ?_
      · have hld := HR0.out.drew.cell (i := 0) (by omega)
        refine Sched.walkF_one (by rfl) (fun K hK => ?_)
        go_simp
        refine hK _ _ ?_
        clear hK K hld
        repeat (first | (refine Sched.walkF_quiet (by rfl) (fun K hK => ?_); go_big_quiet_op; refine hK _ ?_; clear hK K) | (refine Sched.walkF_skip_quiet (by rfl) ?_; simp only [Act.put, List.setIfInBounds_toArray, List.set_cons_zero, List.set_cons_succ]))
        refine Sched.walkF_one (by rfl) (fun K hK => ?_)
        go_simp
        refine (GP.out _).mono ?_
        rintro e w1 ⟨A2, k2, rfl, hat2, hb2⟩
        have HAT2 := Lib.hid hat2
        have HB2 := Lib.hid hb2
        refine hK _ _ ?_
        clear hK K hat2 hb2
        have HR1 := Lib.hid (HR0.out.drew.of_block (w' := w1) (HB2.out.block g HR0.out.drew.lt))
        have HO1 := Lib.hid (own_below (w := w0.drew) HO0.out HB2.out)
        repeat (first | (refine Sched.walkF_quiet (by rfl) (fun K hK => ?_); go_big_quiet_op; refine hK _ ?_; clear hK K) | (refine Sched.walkF_skip_quiet (by rfl) ?_; simp only [Act.put, List.setIfInBounds_toArray, List.set_cons_zero, List.set_cons_succ]))
        simp only [numS0, Sched.picked, List.getElem?_cons_succ, List.getElem?_cons_zero, Option.getD_some]
        refine Sched.walkF_one (by rfl) (fun K hK => ?_)
        refine wp_append_bytes (.tmp 20) (.tmp 22) rfl (g + 1) (.slice A4 L.length k4) L.length L rfl HO1.out A2 N k2 rfl HAT2.out (by have := HL6.out; omega) (by have := HR1.out.lt; omega) ?_
        intro v3 w3 hap
        have HAP := Lib.hid hap
        refine hK _ _ ?_
        clear hK K hap
        have HB3 : Hid (Below (g + 1) w1 w3) := ((Below.refl (g + 1) w1).grown HAP.out.2.1 (by have := HR1.out.lt; omega) (fun j hj => (HO1.out.lt j hj).1))
        have HR3 := Lib.hid (HR1.out.of_block (w' := w3) (HB3.out.block g (by omega)))
        repeat (first | (refine Sched.walkF_quiet (by rfl) (fun K hK => ?_); go_big_quiet_op; refine hK _ ?_; clear hK K) | (refine Sched.walkF_skip_quiet (by rfl) ?_; simp only [Act.put, List.setIfInBounds_toArray, List.set_cons_zero, List.set_cons_succ]))
        refine Sched.walkF_one (by rfl) (fun K hK => ?_)
        go_simp
        refine hK _ _ ?_
        clear hK K
        repeat (first | (refine Sched.walkF_quiet (by rfl) (fun K hK => ?_); go_big_quiet_op; refine hK _ ?_; clear hK K) | (refine Sched.walkF_skip_quiet (by rfl) ?_; simp only [Act.put, List.setIfInBounds_toArray, List.set_cons_zero, List.set_cons_succ]))
        have hf3 := HR3.out.frozen 0
        have hc3 := HR3.out.cell (i := 0) (by omega)
        obtain ⟨A5, k5, rfl⟩ := own_slice HAP.out.1
        refine Sched.walkF_one (by rfl) (fun K hK => ?_)
        go_simp
        refine hK _ _ ?_
        clear hK K hf3 hc3
        refine Sched.walkF_done ?_
        go_wp2
        go_end0
        refine ⟨rfl, .slice A5 (L.length + N.length) k5, (HR3.out.set 0 _).congr fun i hi => ?_, ?_, ?_⟩
        · by_cases hi0 : i = 0
          · rw [if_pos hi0, if_pos hi0]
          · rw [if_neg hi0, if_neg hi0, if_neg hi0]; rfl
        · show World.ownsRow _ _ _ _ _ (L ++ N).length (u8s (L ++ N))
          rw [List.length_append]
          exact ownsRow_setCell_below HAP.out.1 (by show g < g + 1; omega) _
        · exact ((HB0.out.drew.trans (HB2.out.mono (Nat.le_of_lt HR0.out.drew.lt))).trans (HB3.out.mono (Nat.le_succ _))).setCell (Nat.le_refl _) _
      · refine Sched.walkF_one (by rfl) (fun K hK => ?_)
        go_simp
        refine (GP.out _).mono ?_
        rintro e w1 ⟨A2, k2, rfl, hat2, hb2⟩
        have HAT2 := Lib.hid hat2
        have HB2 := Lib.hid hb2
        refine hK _ _ ?_
        clear hK K hat2 hb2
        have HR1 := Lib.hid (HR0.out.drew.of_block (w' := w1) (HB2.out.block g HR0.out.drew.lt))
        have HO1 := Lib.hid (own_below (w := w0.drew) HO0.out HB2.out)
        repeat (first | (refine Sched.walkF_quiet (by rfl) (fun K hK => ?_); go_big_quiet_op; refine hK _ ?_; clear hK K) | (refine Sched.walkF_skip_quiet (by rfl) ?_; simp only [Act.put, List.setIfInBounds_toArray, List.set_cons_zero, List.set_cons_succ]))
        have hld := HR1.out.cell (i := 0) (by omega)
        refine Sched.walkF_one (by rfl) (fun K hK => ?_)
        go_simp
        refine hK _ _ ?_
        clear hK K hld
        repeat (first | (refine Sched.walkF_quiet (by rfl) (fun K hK => ?_); go_big_quiet_op; refine hK _ ?_; clear hK K) | (refine Sched.walkF_skip_quiet (by rfl) ?_; simp only [Act.put, List.setIfInBounds_toArray, List.set_cons_zero, List.set_cons_succ]))
        simp only [numS0, Sched.picked, List.getElem?_cons_succ, List.getElem?_cons_zero, Option.getD_some]
        refine Sched.walkF_one (by rfl) (fun K hK => ?_)
        refine wp_append_bytes (.tmp 20) (.tmp 22) rfl (g + 1) (.slice A4 L.length k4) L.length L rfl HO1.out A2 N k2 rfl HAT2.out (by have := HL6.out; omega) (by have := HR1.out.lt; omega) ?_
        intro v3 w3 hap
        have HAP := Lib.hid hap
        refine hK _ _ ?_
        clear hK K hap
        have HB3 : Hid (Below (g + 1) w1 w3) := ((Below.refl (g + 1) w1).grown HAP.out.2.1 (by have := HR1.out.lt; omega) (fun j hj => (HO1.out.lt j hj).1))
        have HR3 := Lib.hid (HR1.out.of_block (w' := w3) (HB3.out.block g (by omega)))
        repeat (first | (refine Sched.walkF_quiet (by rfl) (fun K hK => ?_); go_big_quiet_op; refine hK _ ?_; clear hK K) | (refine Sched.walkF_skip_quiet (by rfl) ?_; simp only [Act.put, List.setIfInBounds_toArray, List.set_cons_zero, List.set_cons_succ]))
        refine Sched.walkF_one (by rfl) (fun K hK => ?_)
        go_simp
        refine hK _ _ ?_
        clear hK K
        repeat (first | (refine Sched.walkF_quiet (by rfl) (fun K hK => ?_); go_big_quiet_op; refine hK _ ?_; clear hK K) | (refine Sched.walkF_skip_quiet (by rfl) ?_; simp only [Act.put, List.setIfInBounds_toArray, List.set_cons_zero, List.set_cons_succ]))
        have hf3 := HR3.out.frozen 0
        have hc3 := HR3.out.cell (i := 0) (by omega)
        obtain ⟨A5, k5, rfl⟩ := own_slice HAP.out.1
        refine Sched.walkF_one (by rfl) (fun K hK => ?_)
        go_simp
        refine hK _ _ ?_
        clear hK K hf3 hc3
        refine Sched.walkF_done ?_
        go_wp2
        go_end0
        refine ⟨rfl, .slice A5 (L.length + N.length) k5, (HR3.out.set 0 _).congr fun i hi => ?_, ?_, ?_⟩
        · by_cases hi0 : i = 0
          · rw [if_pos hi0, if_pos hi0]
          · rw [if_neg hi0, if_neg hi0, if_neg hi0]; rfl
        · show World.ownsRow _ _ _ _ _ (L ++ N).length (u8s (L ++ N))
          rw [List.length_append]
          exact ownsRow_setCell_below HAP.out.1 (by show g < g + 1; omega) _
        · exact ((HB0.out.drew.trans (HB2.out.mono (Nat.le_of_lt HR0.out.drew.lt))).trans (HB3.out.mono (Nat.le_succ _))).setCell (Nat.le_refl _) _
    · refine Sched.walkF_one (by rfl) (fun K hK => ?_)
      go_simp
      refine (GP.out _).mono ?_
      rintro e w1 ⟨A2, k2, rfl, hat2, hb2⟩
      have HAT2 := Lib.hid hat2
      have HB2 := Lib.hid hb2
      refine hK _ _ ?_
      clear hK K hat2 hb2
      have HR1 := Lib.hid (HR0.out.drew.of_block (w' := w1) (HB2.out.block g HR0.out.drew.lt))
      have HO1 := Lib.hid (own_below (w := w0.drew) HO0.out HB2.out)
      repeat (first | (refine Sched.walkF_quiet (by rfl) (fun K hK => ?_); go_big_quiet_op; refine hK _ ?_; clear hK K) | (refine Sched.walkF_skip_quiet (by rfl) ?_; simp only [Act.put, List.setIfInBounds_toArray, List.set_cons_zero, List.set_cons_succ]))
      refine Sched.walkF_one (by rfl) (fun K hK => ?_)
      go_simp
      refine hK _ _ ?_
      clear hK K
      repeat (first | (refine Sched.walkF_quiet (by rfl) (fun K hK => ?_); go_big_quiet_op; refine hK _ ?_; clear hK K) | (refine Sched.walkF_skip_quiet (by rfl) ?_; simp only [Act.put, List.setIfInBounds_toArray, List.set_cons_zero, List.set_cons_succ]))
      have hld := HR1.out.cell (i := 0) (by omega)
      refine Sched.walkF_one (by rfl) (fun K hK => ?_)
      go_simp
      refine hK _ _ ?_
      clear hK K hld
      repeat (first | (refine Sched.walkF_quiet (by rfl) (fun K hK => ?_); go_big_quiet_op; refine hK _ ?_; clear hK K) | (refine Sched.walkF_skip_quiet (by rfl) ?_; simp only [Act.put, List.setIfInBounds_toArray, List.set_cons_zero, List.set_cons_succ]))
      simp only [numS0, Sched.picked, List.getElem?_cons_succ, List.getElem?_cons_zero, Option.getD_some]
      refine Sched.walkF_one (by rfl) (fun K hK => ?_)
      refine wp_append_bytes (.tmp 20) (.tmp 22) rfl (g + 1) (.slice A4 L.length k4) L.length L rfl HO1.out A2 N k2 rfl HAT2.out (by have := HL6.out; omega) (by have := HR1.out.lt; omega) ?_
      intro v3 w3 hap
      have HAP := Lib.hid hap
      refine hK _ _ ?_
      clear hK K hap
      have HB3 : Hid (Below (g + 1) w1 w3) := ((Below.refl (g + 1) w1).grown HAP.out.2.1 (by have := HR1.out.lt; omega) (fun j hj => (HO1.out.lt j hj).1))
      have HR3 := Lib.hid (HR1.out.of_block (w' := w3) (HB3.out.block g (by omega)))
      repeat (first | (refine Sched.walkF_quiet (by rfl) (fun K hK => ?_); go_big_quiet_op; refine hK _ ?_; clear hK K) | (refine Sched.walkF_skip_quiet (by rfl) ?_; simp only [Act.put, List.setIfInBounds_toArray, List.set_cons_zero, List.set_cons_succ]))
      refine Sched.walkF_one (by rfl) (fun K hK => ?_)
      go_simp
      refine hK _ _ ?_
      clear hK K
      repeat (first | (refine Sched.walkF_quiet (by rfl) (fun K hK => ?_); go_big_quiet_op; refine hK _ ?_; clear hK K) | (refine Sched.walkF_skip_quiet (by rfl) ?_; simp only [Act.put, List.setIfInBounds_toArray, List.set_cons_zero, List.set_cons_succ]))
      have hf3 := HR3.out.frozen 0
      have hc3 := HR3.out.cell (i := 0) (by omega)
      obtain ⟨A5, k5, rfl⟩ := own_slice HAP.out.1
      refine Sched.walkF_one (by rfl) (fun K hK => ?_)
      go_simp
      refine hK _ _ ?_
      clear hK K hf3 hc3
      refine Sched.walkF_done ?_
      go_wp2
      go_end0
      refine ⟨rfl, .slice A5 (L.length + N.length) k5, (HR3.out.set 0 _).congr fun i hi => ?_, ?_, ?_⟩
      · by_cases hi0 : i = 0
        · rw [if_pos hi0, if_pos hi0]
        · rw [if_neg hi0, if_neg hi0, if_neg hi0]; rfl
      · show World.ownsRow _ _ _ _ _ (L ++ N).length (u8s (L ++ N))
        rw [List.length_append]
        exact ownsRow_setCell_below HAP.out.1 (by show g < g + 1; omega) _
      · exact ((HB0.out.drew.trans (HB2.out.mono (Nat.le_of_lt HR0.out.drew.lt))).trans (HB3.out.mono (Nat.le_succ _))).setCell (Nat.le_refl _) _
  case true.true =>
    go_enter Try.func34, Try.ntmps34
    have HR0 : Hid ((w.setCell ⟨g, 1, none⟩ (.bool true)).rowIs g 64 2 (fun j => if j = 0 then .slice A4 L.length k4 else .bool true)) := by
      refine (HR.out.set 1 (.bool true)).congr fun i hi => ?_
      by_cases hi0 : i = 0
      · subst hi0; rfl
      · rw [if_pos (by omega), if_neg hi0]
    have HO0 := Lib.hid (ownsRow_setCell_below HO.out (a := ⟨g, 1, none⟩) (by show g < g + 1; omega) (.bool true))
    have HB0 := Lib.hid (HB.out.setCell (p := ⟨g, 1, none⟩) (Nat.le_refl g) (.bool true))
    go_wp2_with (go_at_call 67; refine (GF.out _).mono ?_; rintro e w' ⟨rfl, rfl⟩)
    clear c0 c1 f0 f1
    refine Sched.wp_region_free numS (by kernel_rfl) (by kernel_rfl) (fun _ _ d _ _ h => by cases d <;> exact h) ?_
    generalize w.setCell ⟨g, 1, none⟩ (.bool true) = w0 at HR0 HO0 HB0 ⊢
    simp only [numS, Sched.picked, List.getElem?_cons_succ, List.getElem?_cons_zero, Option.getD_some]
    repeat (first | (refine Sched.walkF_quiet (by rfl) (fun K hK => ?_); go_big_quiet_op; refine hK _ ?_; clear hK K) | (refine Sched.walkF_skip_quiet (by rfl) ?_; simp only [Act.put, List.setIfInBounds_toArray, List.set_cons_zero, List.set_cons_succ]))
    refine Sched.walkF_two ?_ ?_
    · refine Sched.walkF_one (by rfl) (fun K hK => ?_)
      go_simp
      refine hK _ _ ?_
      clear hK K
      repeat (first | (refine Sched.walkF_quiet (by rfl) (fun K hK => ?_); go_big_quiet_op; refine hK _ ?_; clear hK K) | (refine Sched.walkF_skip_quiet (by rfl) ?_; simp only [Act.put, List.setIfInBounds_toArray, List.set_cons_zero, List.set_cons_succ]))
      refine Sched.walkF_two ?_ ?_
      · have hld := HR0.out.drew.cell (i := 0) (by omega)
        refine Sched.walkF_one (by rfl) (fun K hK => ?_)
        go_simp
        refine hK _ _ ?_
        clear hK K hld
        repeat (first | (refine Sched.walkF_quiet (by rfl) (fun K hK => ?_); go_big_quiet_op; refine hK _ ?_; clear hK K) | (refine Sched.walkF_skip_quiet (by rfl) ?_; simp only [Act.put, List.setIfInBounds_toArray, List.set_cons_zero, List.set_cons_succ]))
        refine Sched.walkF_one (by rfl) (fun K hK => ?_)
        go_simp
        refine (GP.out _).mono ?_
        rintro e w1 ⟨A2, k2, rfl, hat2, hb2⟩
        have HAT2 := Lib.hid hat2
        have HB2 := Lib.hid hb2
        refine hK _ _ ?_
        clear hK K hat2 hb2
        have HR1 := Lib.hid (HR0.out.drew.of_block (w' := w1) (HB2.out.block g HR0.out.drew.lt))
        have HO1 := Lib.hid (own_below (w := w0.drew) HO0.out HB2.out)
        repeat (first | (refine Sched.walkF_quiet (by rfl) (fun K hK => ?_); go_big_quiet_op; refine hK _ ?_; clear hK K) | (refine Sched.walkF_skip_quiet (by rfl) ?_; simp only [Act.put, List.setIfInBounds_toArray, List.set_cons_zero, List.set_cons_succ]))
        simp only [numS0, Sched.picked, List.getElem?_cons_succ, List.getElem?_cons_zero, Option.getD_some]
        refine Sched.walkF_one (by rfl) (fun K hK => ?_)
        refine wp_append_bytes (.tmp 20) (.tmp 22) rfl (g + 1) (.slice A4 L.length k4) L.length L rfl HO1.out A2 N k2 rfl HAT2.out (by have := HL6.out; omega) (by have := HR1.out.lt; omega) ?_
        intro v3 w3 hap
        have HAP := Lib.hid hap
        refine hK _ _ ?_
        clear hK K hap
        have HB3 : Hid (Below (g + 1) w1 w3) := ((Below.refl (g + 1) w1).grown HAP.out.2.1 (by have := HR1.out.lt; omega) (fun j hj => (HO1.out.lt j hj).1))
        have HR3 := Lib.hid (HR1.out.of_block (w' := w3) (HB3.out.block g (by omega)))
        repeat (first | (refine Sched.walkF_quiet (by rfl) (fun K hK => ?_); go_big_quiet_op; refine hK _ ?_; clear hK K) | (refine Sched.walkF_skip_quiet (by rfl) ?_; simp only [Act.put, List.setIfInBounds_toArray, List.set_cons_zero, List.set_cons_succ]))
        refine Sched.walkF_one (by rfl) (fun K hK => ?_)
        go_simp
        refine hK _ _ ?_
        clear hK K
        repeat (first | (refine Sched.walkF_quiet (by rfl) (fun K hK => ?_); go_big_quiet_op; refine hK _ ?_; clear hK K) | (refine Sched.walkF_skip_quiet (by rfl) ?_; simp only [Act.put, List.setIfInBounds_toArray, List.set_cons_zero, List.set_cons_succ]))
        have hf3 := HR3.out.frozen 0
        have hc3 := HR3.out.cell (i := 0) (by omega)
        obtain ⟨A5, k5, rfl⟩ := own_slice HAP.out.1
        refine Sched.walkF_one (by rfl) (fun K hK => ?_)
        go_simp
        refine hK _ _ ?_
        clear hK K hf3 hc3
        refine Sched.walkF_done ?_
        go_wp2
        go_end0
        refine ⟨rfl, .slice A5 (L.length + N.length) k5, (HR3.out.set 0 _).congr fun i hi => ?_, ?_, ?_⟩
        · by_cases hi0 : i = 0
          · rw [if_pos hi0, if_pos hi0]
          · rw [if_neg hi0, if_neg hi0, if_neg hi0]; rfl
        · show World.ownsRow _ _ _ _ _ (L ++ N).length (u8s (L ++ N))
          rw [List.length_append]
          exact ownsRow_setCell_below HAP.out.1 (by show g < g + 1; omega) _
        · exact ((HB0.out.drew.trans (HB2.out.mono (Nat.le_of_lt HR0.out.drew.lt))).trans (HB3.out.mono (Nat.le_succ _))).setCell (Nat.le_refl _) _
      · refine Sched.walkF_one (by rfl) (fun K hK => ?_)
        go_simp
        refine (GP.out _).mono ?_
        rintro e w1 ⟨A2, k2, rfl, hat2, hb2⟩
        have HAT2 := Lib.hid hat2
        have HB2 := Lib.hid hb2
        refine hK _ _ ?_
        clear hK K hat2 hb2
        have HR1 := Lib.hid (HR0.out.drew.of_block (w' := w1) (HB2.out.block g HR0.out.drew.lt))
        have HO1 := Lib.hid (own_below (w := w0.drew) HO0.out HB2.out)
        repeat (first | (refine Sched.walkF_quiet (by rfl) (fun K hK => ?_); go_big_quiet_op; refine hK _ ?_; clear hK K) | (refine Sched.walkF_skip_quiet (by rfl) ?_; simp only [Act.put, List.setIfInBounds_toArray, List.set_cons_zero, List.set_cons_succ]))
        have hld := HR1.out.cell (i := 0) (by omega)
        refine Sched.walkF_one (by rfl) (fun K hK => ?_)
        go_simp
        refine hK _ _ ?_
        clear hK K hld
        repeat (first | (refine Sched.walkF_quiet (by rfl) (fun K hK => ?_); go_big_quiet_op; refine hK _ ?_; clear hK K) | (refine Sched.walkF_skip_quiet (by rfl) ?_; simp only [Act.put, List.setIfInBounds_toArray, List.set_cons_zero, List.set_cons_succ]))
        simp only [numS0, Sched.picked, List.getElem?_cons_succ, List.getElem?_cons_zero, Option.getD_some]
        refine Sched.walkF_one (by rfl) (fun K hK => ?_)
        refine wp_append_bytes (.tmp 20) (.tmp 22) rfl (g + 1) (.slice A4 L.length k4) L.length L rfl HO1.out A2 N k2 rfl HAT2.out (by have := HL6.out; omega) (by have := HR1.out.lt; omega) ?_
        intro v3 w3 hap
        have HAP := Lib.hid hap
        refine hK _ _ ?_
        clear hK K hap
        have HB3 : Hid (Below (g + 1) w1 w3) := ((Below.refl (g + 1) w1).grown HAP.out.2.1 (by have := HR1.out.lt; omega) (fun j hj => (HO1.out.lt j hj).1))
        have HR3 := Lib.hid (HR1.out.of_block (w' := w3) (HB3.out.block g (by omega)))
        repeat (first | (refine Sched.walkF_quiet (by rfl) (fun K hK => ?_); go_big_quiet_op; refine hK _ ?_; clear hK K) | (refine Sched.walkF_skip_quiet (by rfl) ?_; simp only [Act.put, List.setIfInBounds_toArray, List.set_cons_zero, List.set_cons_succ]))
        refine Sched.walkF_one (by rfl) (fun K hK => ?_)
        go_simp
        refine hK _ _ ?_
        clear hK K
        repeat (first | (refine Sched.walkF_quiet (by rfl) (fun K hK => ?_); go_big_quiet_op; refine hK _ ?_; clear hK K) | (refine Sched.walkF_skip_quiet (by rfl) ?_; simp only [Act.put, List.setIfInBounds_toArray, List.set_cons_zero, List.set_cons_succ]))
        have hf3 := HR3.out.frozen 0
        have hc3 := HR3.out.cell (i := 0) (by omega)
        obtain ⟨A5, k5, rfl⟩ := own_slice HAP.out.1
        refine Sched.walkF_one (by rfl) (fun K hK => ?_)
        go_simp
        refine hK _ _ ?_
        clear hK K hf3 hc3
        refine Sched.walkF_done ?_
        go_wp2
        go_end0
        refine ⟨rfl, .slice A5 (L.length + N.length) k5, (HR3.out.set 0 _).congr fun i hi => ?_, ?_, ?_⟩
        · by_cases hi0 : i = 0
          · rw [if_pos hi0, if_pos hi0]
          · rw [if_neg hi0, if_neg hi0, if_neg hi0]; rfl
        · show World.ownsRow _ _ _ _ _ (L ++ N).length (u8s (L ++ N))
          rw [List.length_append]
          exact ownsRow_setCell_below HAP.out.1 (by show g < g + 1; omega) _
        · exact ((HB0.out.drew.trans (HB2.out.mono (Nat.le_of_lt HR0.out.drew.lt))).trans (HB3.out.mono (Nat.le_succ _))).setCell (Nat.le_refl _) _
    · refine Sched.walkF_one (by rfl) (fun K hK => ?_)
      go_simp
      refine (GP.out _).mono ?_
      rintro e w1 ⟨A2, k2, rfl, hat2, hb2⟩
      have HAT2 := Lib.hid hat2
      have HB2 := Lib.hid hb2
      refine hK _ _ ?_
      clear hK K hat2 hb2
      have HR1 := Lib.hid (HR0.out.drew.of_block (w' := w1) (HB2.out.block g HR0.out.drew.lt))
      have HO1 := Lib.hid (own_below (w := w0.drew) HO0.out HB2.out)
      repeat (first | (refine Sched.walkF_quiet (by rfl) (fun K hK => ?_); go_big_quiet_op; refine hK _ ?_; clear hK K) | (refine Sched.walkF_skip_quiet (by rfl) ?_; simp only [Act.put, List.setIfInBounds_toArray, List.set_cons_zero, List.set_cons_succ]))
      refine Sched.walkF_one (by rfl) (fun K hK => ?_)
      go_simp
      refine hK _ _ ?_
      clear hK K
      repeat (first | (refine Sched.walkF_quiet (by rfl) (fun K hK => ?_); go_big_quiet_op; refine hK _ ?_; clear hK K) | (refine Sched.walkF_skip_quiet (by rfl) ?_; simp only [Act.put, List.setIfInBounds_toArray, List.set_cons_zero, List.set_cons_succ]))
      have hld := HR1.out.cell (i := 0) (by omega)
      refine Sched.walkF_one (by rfl) (fun K hK => ?_)
      go_simp
      refine hK _ _ ?_
      clear hK K hld
      repeat (first | (refine Sched.walkF_quiet (by rfl) (fun K hK => ?_); go_big_quiet_op; refine hK _ ?_; clear hK K) | (refine Sched.walkF_skip_quiet (by rfl) ?_; simp only [Act.put, List.setIfInBounds_toArray, List.set_cons_zero, List.set_cons_succ]))
      simp only [numS0, Sched.picked, List.getElem?_cons_succ, List.getElem?_cons_zero, Option.getD_some]
      refine Sched.walkF_one (by rfl) (fun K hK => ?_)
      refine wp_append_bytes (.tmp 20) (.tmp 22) rfl (g + 1) (.slice A4 L.length k4) L.length L rfl HO1.out A2 N k2 rfl HAT2.out (by have := HL6.out; omega) (by have := HR1.out.lt; omega) ?_
      intro v3 w3 hap
      have HAP := Lib.hid hap
      refine hK _ _ ?_
      clear hK K hap
      have HB3 : Hid (Below (g + 1) w1 w3) := ((Below.refl (g + 1) w1).grown HAP.out.2.1 (by have := HR1.out.lt; omega) (fun j hj => (HO1.out.lt j hj).1))
      have HR3 := Lib.hid (HR1.out.of_block (w' := w3) (HB3.out.block g (by omega)))
      repeat (first | (refine Sched.walkF_quiet (by rfl) (fun K hK => ?_); go_big_quiet_op; refine hK _ ?_; clear hK K) | (refine Sched.walkF_skip_quiet (by rfl) ?_; simp only [Act.put, List.setIfInBounds_toArray, List.set_cons_zero, List.set_cons_succ]))
      refine Sched.walkF_one (by rfl) (fun K hK => ?_)
      go_simp
      refine hK _ _ ?_
      clear hK K
      repeat (first | (refine Sched.walkF_quiet (by rfl) (fun K hK => ?_); go_big_quiet_op; refine hK _ ?_; clear hK K) | (refine Sched.walkF_skip_quiet (by rfl) ?_; simp only [Act.put, List.setIfInBounds_toArray, List.set_cons_zero, List.set_cons_succ]))
      have hf3 := HR3.out.frozen 0
      have hc3 := HR3.out.cell (i := 0) (by omega)
      obtain ⟨A5, k5, rfl⟩ := own_slice HAP.out.1
      refine Sched.walkF_one (by rfl) (fun K hK => ?_)
      go_simp
      refine hK _ _ ?_
      clear hK K hf3 hc3
      refine Sched.walkF_done ?_
      go_wp2
      go_end0
      refine ⟨rfl, .slice A5 (L.length + N.length) k5, (HR3.out.set 0 _).congr fun i hi => ?_, ?_, ?_⟩
      · by_cases hi0 : i = 0
        · rw [if_pos hi0, if_pos hi0]
        · rw [if_neg hi0, if_neg hi0, if_neg hi0]; rfl
      · show World.ownsRow _ _ _ _ _ (L ++ N).length (u8s (L ++ N))
        rw [List.length_append]
        exact ownsRow_setCell_below HAP.out.1 (by show g < g + 1; omega) _
      · exact ((HB0.out.drew.trans (HB2.out.mono (Nat.le_of_lt HR0.out.drew.lt))).trans (HB3.out.mono (Nat.le_succ _))).setCell (Nat.le_refl _) _
end Go.Proofs.Ytkapfijokmajlaa

/- The document's own writer, ropewalkref1.Out: the contracts of Text, Flag, Done, and of the document's own Valid. Condition: no more than 2^40 bytes in all. -/
namespace Go.Proofs.Ytkapfijokmajlaa
open Go.RowKit Go.Deep Go.Lib

theorem refValid_any (l : List Nat) (hb : ∀ x ∈ l, x < 256) (hl : l.length ≤ 1099511627776) (w : World) :
    Calls Try.prog 58 #[.string (bstr l)] w fun e w' => e = .returned (.bool (validB l)) ∧ Below w.heap.size w w' := by
  have HP := Lib.hid (refPoints_any l hb hl w)
  obtain ⟨F, HF⟩ : ∃ F, Hid (validB l = F) := ⟨_, rfl⟩
  rw [HF.out]
  go_enter Try.func58, Try.ntmps58
  go_wp2_with fail
  refine HP.out.mono ?_
  rintro e w1 ⟨⟨vs, hv, A, c, rfl, _⟩ | ⟨hn, rfl⟩, hbel⟩
  · have e1 : Hid (F = true) := by show F = true; rw [← HF.out]; exact validB_yes hv
    clear hv
    go_wp2
    go_ret
    exact ⟨by rw [e1.out]; rfl, hbel⟩
  · have e1 : Hid (F = false) := by show F = false; rw [← HF.out]; exact validB_no hn
    clear hn
    go_wp2
    go_ret
    exact ⟨by rw [e1.out]; rfl, hbel⟩

theorem OutAt.below {W : World} {g : Nat} {c : Ink} {w w' : World} (h : OutAt W g c w) (hb : Below w.heap.size w w') : OutAt W g c w' := by
  obtain ⟨v, hr, ho, hB⟩ := h
  exact ⟨v, hr.of_block (hb.block g hr.lt), own_below ho hb, hB.trans (hb.mono (Nat.le_of_lt hr.lt))⟩
theorem OutAt.upto {W : World} {g : Nat} {c : Ink} {w : World} (h : OutAt W g c w) : Below g W w := by
  obtain ⟨_, _, _, hB⟩ := h
  exact hB
theorem OutAt.setBad {W : World} {g : Nat} {L : List Nat} {b0 : Bool} {w : World} (h : OutAt W g (L, b0) w) (b : Bool) : OutAt W g (L, b) (w.setCell ⟨g, 1, none⟩ (.bool b)) := by
  obtain ⟨v, hr, ho, hB⟩ := h
  refine ⟨v, (hr.set 1 (.bool b)).congr fun i hi => ?_, ownsRow_setCell_below ho (by show g < g + 1; omega) _, hB.setCell (Nat.le_refl _) _⟩
  by_cases h0 : i = 0
  · subst h0; rfl
  · rw [if_pos (by omega), if_neg h0]
theorem OutAt.read {W : World} {g : Nat} {L : List Nat} {b : Bool} {w : World} (h : OutAt W g (L, b) w) :
    ∃ A k, w.ownsRow (g + 1) 5 1 (.slice A L.length k) L.length (u8s L) ∧ w.cell? ⟨g, 0, none⟩ = some (.slice A L.length k) ∧ w.cell? ⟨g, 1, none⟩ = some (.bool b) ∧ w.frozen? ⟨g, 0, none⟩ = false ∧ w.frozen? ⟨g, 1, none⟩ = false ∧ g < w.heap.size := by
  obtain ⟨v, hr, ho, hB⟩ := h
  obtain ⟨A, k, rfl⟩ := own_slice ho
  exact ⟨A, k, ho, by simpa using hr.cell (i := 0) (by omega), by simpa using hr.cell (i := 1) (by omega), hr.frozen 0, hr.frozen 1, hr.lt⟩
theorem OutAt.setBytes {W : World} {g : Nat} {L M : List Nat} {b : Bool} {w w1 : World} {v : Value} {row : Option Nat} (h : OutAt W g (L, b) w) (hg : w.grownBy w1 row) (hrow : ∀ k, row = some k → g + 1 ≤ k) (ho : w1.ownsRow (g + 1) 5 1 v M.length (u8s M)) :
    OutAt W g (M, b) (w1.setCell ⟨g, 0, none⟩ v) := by
  obtain ⟨v0, hr, _, hB⟩ := h
  have hb1 : Below (g + 1) w w1 := (Below.refl (g + 1) w).grown hg hr.lt hrow
  refine ⟨v, ((hr.of_block (w' := w1) (hb1.block g (by omega))).set 0 v).congr fun i hi => ?_, ownsRow_setCell_below ho (by show g < g + 1; omega) _, (hB.trans (hb1.mono (Nat.le_succ _))).setCell (Nat.le_refl _) _⟩
  by_cases h0 : i = 0
  · rw [if_pos h0, if_pos h0]
  · rw [if_neg h0, if_neg h0, if_neg h0]
theorem ink_text (L : List Nat) (b : Bool) (t : List Nat) : ink (ink (L, b || !validB t) (iNum t.length)) (t, false) = ink (L, b) (iText t) := by
  simp [ink, iText, Bool.or_assoc]
theorem strCells_bstr (l : List Nat) (hb : ∀ x ∈ l, x < 256) : strCells (bstr l) = u8s l := by
  unfold strCells u8s
  rw [bstr_data, List.map_map]
  refine List.map_congr_left fun x hx => ?_
  have := hb x hx
  simp
  omega

set_option maxHeartbeats 1000000 in
set_option maxRecDepth 100000 in
theorem refOutText_any (W : World) (g : Nat) (c : Ink) (t : List Nat) (hb : ∀ x ∈ t, x < 256) (hl : c.1.length + t.length + 6 ≤ 1099511627776) (w : World) (h : OutAt W g c w) :
    Calls Try.prog 43 #[.pointer (some ⟨g, 0, none⟩), .string (bstr t)] w fun e w' => e = .returned (.tuple #[]) ∧ OutAt W g (ink c (iText t)) w' := by
  obtain ⟨L, B⟩ := c
  simp only at hl
  have HT := Lib.hid (ink_text L B t)
  have HSC := Lib.hid (strCells_bstr t hb)
  have hsz := bstr_size t
  have GV := Lib.hid (fun w => refValid_any t hb (by omega) w)
  obtain ⟨F, HF⟩ : ∃ F, Hid (validB t = F) := ⟨_, rfl⟩
  rw [HF.out] at GV HT
  have GN := Lib.hid (fun (b : Bool) w hh => refOutNum_any W g (L, b) (t.length : Int) (by show L.length ≤ _; omega) w hh)
  have HIL : Hid ((ink (L, B || !F) (iNum (t.length : Int))).1.length ≤ L.length + 6) := by
    show (L ++ (iNum (t.length : Int)).1).length ≤ L.length + 6
    rw [List.length_append]; have := iNum_length (t.length : Int); omega
  rw [← HT.out]
  clear HT
  have H := Lib.hid h; clear h
  obtain ⟨i0, hi0, hz0, hz1, hz2⟩ := info_parts u8_info
  have HI0 := Lib.hid hi0; clear hi0
  have HZ0 := Lib.hid hz0; clear hz0
  have HZ1 := Lib.hid hz1; clear hz1
  have HZ2 := Lib.hid hz2; clear hz2
  cases B
  case true =>
    simp only [Bool.true_or] at HIL ⊢
    obtain ⟨M, HM⟩ : ∃ M, Hid (ink (L, true) (iNum (t.length : Int)) = M) := ⟨_, rfl⟩
    have GNB := Lib.hid (GN.out true)
    rw [HM.out] at HIL GNB ⊢
    obtain ⟨M1, M2⟩ := M
    simp only at HIL
    obtain ⟨A1, k1, ho1, c0, c1, f0, f1, hg⟩ := H.out.read
    clear ho1
    go_enter Try.func43, Try.ntmps43
    go_wp2_with fail
    refine (GNB.out _ (H.out.setBad true)).mono ?_
    rintro e w2 ⟨rfl, h2⟩
    have H2 := Lib.hid h2; clear h2
    obtain ⟨A2, k2, ho2, d0, d1, e0, e1, hg2⟩ := H2.out.read
    have HO2 := Lib.hid ho2; clear ho2
    go_wp2_with (at_builtin
                 refine wpList_append_own_string w2 rfl (.tmp 24) (.tmp 25) 25 9 rfl (g + 1) 5 i0 Try.underlying25 Try.underlying9 HI0.out HZ0.out HZ1.out HZ2.out (.slice A2 M1.length k2) M1.length (u8s M1) rfl HO2.out (bstr t) rfl (by have := HIL.out; rw [hsz]; simp only [maxLen]; omega) (by have := HIL.out; rw [hsz]; omega) (by omega) ?_
                 intro v3 w3 hown3 hgr3 _
                 rw [hsz, HSC.out, ← u8s_append, ← List.length_append] at hown3
                 obtain ⟨A3, k3, rfl⟩ := own_slice hown3
                 have HO3 := Lib.hid hown3
                 have HG3 := Lib.hid hgr3
                 have HB3 : Hid (Below (g + 1) w2 w3) := (Below.refl (g + 1) w2).grown HG3.out (by omega) (fun j hj => (HO2.out.lt j hj).1)
                 have q0 := HB3.out.cell (p := ⟨g, 0, none⟩) (by show g < g + 1; omega)
                 have q1 := HB3.out.frozen (p := ⟨g, 0, none⟩) (by show g < g + 1; omega)
                 rw [d0] at q0
                 rw [e0] at q1
                 clear hown3 hgr3)
    go_end0
    refine ⟨rfl, ?_⟩
    have h3 := H2.out.setBytes (M := M1 ++ t) HG3.out (fun j hj => (HO2.out.lt j hj).1) HO3.out
    rw [List.length_append] at h3
    simp only [ink, Bool.or_false]
    exact h3
  case false =>
    cases F
    case false =>
      simp only [Bool.false_or, Bool.not_false] at HIL ⊢
      obtain ⟨M, HM⟩ : ∃ M, Hid (ink (L, true) (iNum (t.length : Int)) = M) := ⟨_, rfl⟩
      have GNB := Lib.hid (GN.out true)
      rw [HM.out] at HIL GNB ⊢
      obtain ⟨M1, M2⟩ := M
      simp only at HIL
      obtain ⟨A1, k1, ho1, c0, c1, f0, f1, hg⟩ := H.out.read
      clear ho1
      go_enter Try.func43, Try.ntmps43
      go_wp2_with fail
      refine (GV.out _).mono ?_
      rintro e w1 ⟨rfl, hb1⟩
      have H1 := Lib.hid (H.out.below hb1); clear hb1 c0 c1 f0 f1
      obtain ⟨A1, k1, ho1, c0, c1, f0, f1, hg1⟩ := H1.out.read
      clear ho1
      go_wp2_with fail
      refine (GNB.out _ (H1.out.setBad true)).mono ?_
      rintro e w2 ⟨rfl, h2⟩
      have H2 := Lib.hid h2; clear h2
      obtain ⟨A2, k2, ho2, d0, d1, e0, e1, hg2⟩ := H2.out.read
      have HO2 := Lib.hid ho2; clear ho2
      go_wp2_with (at_builtin
                   refine wpList_append_own_string w2 rfl (.tmp 24) (.tmp 25) 25 9 rfl (g + 1) 5 i0 Try.underlying25 Try.underlying9 HI0.out HZ0.out HZ1.out HZ2.out (.slice A2 M1.length k2) M1.length (u8s M1) rfl HO2.out (bstr t) rfl (by have := HIL.out; rw [hsz]; simp only [maxLen]; omega) (by have := HIL.out; rw [hsz]; omega) (by omega) ?_
                   intro v3 w3 hown3 hgr3 _
                   rw [hsz, HSC.out, ← u8s_append, ← List.length_append] at hown3
                   obtain ⟨A3, k3, rfl⟩ := own_slice hown3
                   have HO3 := Lib.hid hown3
                   have HG3 := Lib.hid hgr3
                   have HB3 : Hid (Below (g + 1) w2 w3) := (Below.refl (g + 1) w2).grown HG3.out (by omega) (fun j hj => (HO2.out.lt j hj).1)
                   have q0 := HB3.out.cell (p := ⟨g, 0, none⟩) (by show g < g + 1; omega)
                   have q1 := HB3.out.frozen (p := ⟨g, 0, none⟩) (by show g < g + 1; omega)
                   rw [d0] at q0
                   rw [e0] at q1
                   clear hown3 hgr3)
      go_end0
      refine ⟨rfl, ?_⟩
      have h3 := H2.out.setBytes (M := M1 ++ t) HG3.out (fun j hj => (HO2.out.lt j hj).1) HO3.out
      rw [List.length_append] at h3
      simp only [ink, Bool.or_false]
      exact h3
    case true =>
      simp only [Bool.false_or, Bool.not_true] at HIL ⊢
      obtain ⟨M, HM⟩ : ∃ M, Hid (ink (L, false) (iNum (t.length : Int)) = M) := ⟨_, rfl⟩
      have GNB := Lib.hid (GN.out false)
      rw [HM.out] at HIL GNB ⊢
      obtain ⟨M1, M2⟩ := M
      simp only at HIL
      obtain ⟨A1, k1, ho1, c0, c1, f0, f1, hg⟩ := H.out.read
      clear ho1
      go_enter Try.func43, Try.ntmps43
      go_wp2_with fail
      refine (GV.out _).mono ?_
      rintro e w1 ⟨rfl, hb1⟩
      have H1 := Lib.hid (H.out.below hb1); clear hb1 c0 c1 f0 f1
      obtain ⟨A1, k1, ho1, c0, c1, f0, f1, hg1⟩ := H1.out.read
      clear ho1
      go_wp2_with fail
      refine (GNB.out _ (H1.out.setBad false)).mono ?_
      rintro e w2 ⟨rfl, h2⟩
      have H2 := Lib.hid h2; clear h2
      obtain ⟨A2, k2, ho2, d0, d1, e0, e1, hg2⟩ := H2.out.read
      have HO2 := Lib.hid ho2; clear ho2
      go_wp2_with (at_builtin
                   refine wpList_append_own_string w2 rfl (.tmp 24) (.tmp 25) 25 9 rfl (g + 1) 5 i0 Try.underlying25 Try.underlying9 HI0.out HZ0.out HZ1.out HZ2.out (.slice A2 M1.length k2) M1.length (u8s M1) rfl HO2.out (bstr t) rfl (by have := HIL.out; rw [hsz]; simp only [maxLen]; omega) (by have := HIL.out; rw [hsz]; omega) (by omega) ?_
                   intro v3 w3 hown3 hgr3 _
                   rw [hsz, HSC.out, ← u8s_append, ← List.length_append] at hown3
                   obtain ⟨A3, k3, rfl⟩ := own_slice hown3
                   have HO3 := Lib.hid hown3
                   have HG3 := Lib.hid hgr3
                   have HB3 : Hid (Below (g + 1) w2 w3) := (Below.refl (g + 1) w2).grown HG3.out (by omega) (fun j hj => (HO2.out.lt j hj).1)
                   have q0 := HB3.out.cell (p := ⟨g, 0, none⟩) (by show g < g + 1; omega)
                   have q1 := HB3.out.frozen (p := ⟨g, 0, none⟩) (by show g < g + 1; omega)
                   rw [d0] at q0
                   rw [e0] at q1
                   clear hown3 hgr3)
      go_end0
      refine ⟨rfl, ?_⟩
      have h3 := H2.out.setBytes (M := M1 ++ t) HG3.out (fun j hj => (HO2.out.lt j hj).1) HO3.out
      rw [List.length_append] at h3
      simp only [ink, Bool.or_false]
      exact h3

theorem refOutFlag_any (W : World) (g : Nat) (c : Ink) (b : Bool) (hl : c.1.length ≤ 1099511627776) (w : World) (h : OutAt W g c w) :
    Calls Try.prog 44 #[.pointer (some ⟨g, 0, none⟩), .bool b] w fun e w' => e = .returned (.tuple #[]) ∧ OutAt W g (ink c (iFlag b)) w' := by
  have GN := Lib.hid (fun (n : Int) w hh => refOutNum_any W g c n hl w hh)
  have H := Lib.hid h; clear h
  cases b
  all_goals
    go_enter Try.func44, Try.ntmps44
    go_wp2_with fail
    refine (GN.out _ _ H.out).mono ?_
    rintro e w2 ⟨rfl, h2⟩
    have H2 := Lib.hid h2; clear h2
    go_wp2
    go_end0
    exact ⟨rfl, H2.out⟩
/-- What Done tells. -/
def DoneEnd (g : Nat) (c : Ink) (w : World) (e : Ending) : Prop :=
  c.2 = true ∧ e = .returned (.tuple #[.slice none 0 0, .bool false]) ∨ c.2 = false ∧ ∃ A k, e = .returned (.tuple #[.slice A c.1.length k, .bool true]) ∧ w.ownsRow (g + 1) 5 1 (.slice A c.1.length k) c.1.length (u8s c.1)
theorem refOutDone_any (W : World) (g : Nat) (c : Ink) (w : World) (h : OutAt W g c w) :
    Calls Try.prog 48 #[.pointer (some ⟨g, 0, none⟩)] w fun e w' => DoneEnd g c w e ∧ w = w' := by
  obtain ⟨L, B⟩ := c
  obtain ⟨A1, k1, ho1, c0, c1, f0, f1, hg⟩ := h.read
  have HO := Lib.hid ho1; clear ho1
  cases B
  · go_enter Try.func48, Try.ntmps48
    go_wp2
    go_ret2
    exact ⟨.inr ⟨rfl, A1, k1, rfl, HO.out⟩, rfl⟩
  · go_enter Try.func48, Try.ntmps48
    go_wp2
    go_ret2
    exact ⟨.inl ⟨rfl, rfl⟩, rfl⟩
end Go.Proofs.Ytkapfijokmajlaa

/- The contract of the document's own writer of edits, (*ropewalkref1.Out).Comps. Condition: no more than 2^40 bytes in all. -/
namespace Go.Proofs.Ytkapfijokmajlaa
open Go.RowKit Go.Deep

def roomComp (c : CompV) : Nat := c.text.length + 18
def roomComps (l : List CompV) : Nat := (l.map roomComp).sum + 6
theorem iText_length (t : List Nat) : (iText t).1.length ≤ t.length + 6 := by
  have := iNum_length (t.length : Int)
  simp [iText, ink]
  omega
theorem iFlag_length (b : Bool) : (iFlag b).1.length ≤ 6 := iNum_length _
theorem iComp_length (c : CompV) : (iComp c).1.length ≤ roomComp c := by
  have h1 := iNum_length c.kind
  have h2 := iNum_length c.n
  have h3 := iText_length c.text
  simp only [iComp, ink, List.length_append, roomComp]
  omega
theorem ink_length (a b : Ink) : (ink a b).1.length = a.1.length + b.1.length := by simp [ink]
theorem inks_length {α : Type} (f : α → Ink) (room : α → Nat) (h : ∀ x, (f x).1.length ≤ room x) (l : List α) : (inks (l.map f)).1.length ≤ (l.map room).sum := by
  induction l with
  | nil => simp [inks, noInk]
  | cons x l ih => rw [List.map_cons, inks, ink_length, List.map_cons, List.sum_cons]; have := h x; omega
theorem iComps_length (l : List CompV) : (iComps l).1.length ≤ roomComps l := by
  have h1 := iNum_length (l.length : Int)
  have h2 := inks_length iComp roomComp iComp_length l
  rw [iComps, ink_length, roomComps]
  omega
theorem sum_take_le {α : Type} (room : α → Nat) (l : List α) (k : Nat) (h : k < l.length) : ((l.take k).map room).sum + room l[k] ≤ (l.map room).sum := by
  have e : l = l.take k ++ (l[k] :: l.drop (k + 1)) := by rw [← List.drop_eq_getElem_cons h, List.take_append_drop]
  have e2 : (l.map room).sum = ((l.take k).map room).sum + (room l[k] + ((l.drop (k + 1)).map room).sum) := by
    conv => lhs; rw [e, List.map_append, List.sum_append, List.map_cons, List.sum_cons]
  omega

set_option maxHeartbeats 1000000 in
set_option maxRecDepth 100000 in
theorem refOutComps_any (W : World) (g : Nat) (hWg : W.heap.size ≤ g) (c : Ink) (A : Option Addr) (l : List CompV) (cap : Nat) (hg : ∀ y ∈ l, y.Good) (hl : c.1.length + roomComps l ≤ 1099511627776) (hA : CompsAt W A l) (w : World) (h : OutAt W g c w) :
    Calls Try.prog 45 #[.pointer (some ⟨g, 0, none⟩), .slice A l.length cap] w fun e w' => e = .returned (.tuple #[]) ∧ OutAt W g (ink c (iComps l)) w' := by
  have hlen : l.length ≤ (l.map roomComp).sum := by
    clear hA hg hl
    induction l with
    | nil => simp
    | cons x l ih => rw [List.map_cons, List.sum_cons, List.length_cons]; have : 1 ≤ roomComp x := by unfold roomComp; omega
                     omega
  unfold roomComps at hl
  have GN := Lib.hid (fun (d : Ink) (n : Int) w (hd : d.1.length ≤ 1099511627776) hh => refOutNum_any W g d n hd w hh)
  have GT := Lib.hid (fun (d : Ink) (t : List Nat) w (hb : ∀ x ∈ t, x < 256) (hd : d.1.length + t.length + 6 ≤ 1099511627776) hh => refOutText_any W g d t hb hd w hh)
  have HA := Lib.hid hA; clear hA
  have HG := Lib.hid hg; clear hg
  have HL := Lib.hid hl
  have hln : l.length ≤ 1099511627776 := by omega
  have hc40 : c.1.length ≤ 1099511627776 := by omega
  clear hl hlen
  have H := Lib.hid h; clear h
  obtain ⟨C0, HC0⟩ : ∃ C0, Hid (ink c (iNum (l.length : Int)) = C0) := ⟨_, rfl⟩
  have HC0L : Hid (C0.1.length ≤ c.1.length + 6) := by show _ ≤ _; rw [← HC0.out, ink_length]; have := iNum_length (l.length : Int); omega
  have HEND : Hid (ink c (iComps l) = ink C0 (inks (l.map iComp))) := by show _ = _; rw [iComps, ← ink_assoc, HC0.out]
  obtain ⟨CE, HCE⟩ : ∃ CE, Hid (ink c (iComps l) = CE) := ⟨_, rfl⟩
  rw [HCE.out] at HEND ⊢
  have GN0 := Lib.hid (GN.out c (l.length : Int))
  rw [HC0.out] at GN0
  go_enter Try.func45, Try.ntmps45
  go_wp2_with fail
  refine (GN0.out _ hc40 H.out).mono ?_
  rintro e w1 ⟨rfl, h1⟩
  have H1 := Lib.hid h1; clear h1
  go_wp2_with fail
  go_loopw [4] (fun i wr => ∃ k : Nat, k ≤ l.length ∧ i = .int .i64 k ∧ OutAt W g (ink C0 (inks ((l.take k).map iComp))) wr) (fun i _ => l.length - (intOf i).toNat)
  case atStart => exact ⟨0, Nat.zero_le _, rfl, by rw [List.take_zero, List.map_nil, inks, ink_none]; exact H1.out⟩
  case round =>
    obtain ⟨k, hk, rfl, hout⟩ := hrel
    have HOUT := Lib.hid hout; clear hout
    by_cases hlt : k < l.length
    · have HST := Lib.hid (inks_take iComp l k hlt)
      have HLEN : Hid ((ink C0 (inks ((l.take k).map iComp))).1.length + roomComp l[k] ≤ 1099511627776) := by
        show _ ≤ _
        rw [ink_length]
        have h1 := inks_length iComp roomComp iComp_length (l.take k)
        have h2 := sum_take_le roomComp l k hlt
        have := HL.out
        have := HC0L.out
        omega
      obtain ⟨D, HD⟩ : ∃ D, Hid (ink C0 (inks ((l.take k).map iComp)) = D) := ⟨_, rfl⟩
      have HNX : Hid (ink C0 (inks ((l.take (k + 1)).map iComp)) = ink (ink (ink D (iNum l[k].kind)) (iNum l[k].n)) (iText l[k].text)) := by
        show _ = _
        rw [HST.out, ← ink_assoc, HD.out, iComp, ink_assoc, ink_assoc]
      rw [HD.out] at HOUT HLEN
      have HGK := Lib.hid (HG.out _ (List.getElem_mem hlt))
      obtain ⟨b, bo, rfl, _⟩ := HA.out.form (by omega)
      have HAB : Hid (∀ wz : World, Below g W wz → CompsAt wz (some ⟨b, bo, none⟩) l) := fun wz hz => HA.out.below (hz.mono hWg)
      have HCK : Hid (∀ wz : World, Below g W wz → wz.cell? ⟨b, bo + k * 3, none⟩ = some (.int .i64 l[k].kind) ∧ wz.cell? ⟨b, bo + k * 3 + 1, none⟩ = some (.int .i64 l[k].n) ∧ wz.cell? ⟨b, bo + k * 3 + 2, none⟩ = some (.string (bstr l[k].text))) := fun wz hz => (HAB.out wz hz).at_ hlt
      obtain ⟨Y, HY⟩ : ∃ Y, Hid (l[k] = Y) := ⟨l[k], Lib.hid rfl⟩
      rw [HY.out] at HGK HCK HNX HLEN
      obtain ⟨yk, yn, yt⟩ := Y
      simp only at HCK HNX
      have HGT : Hid ((∀ x ∈ yt, x < 256) ∧ D.1.length + yt.length + 18 ≤ 1099511627776) := ⟨HGK.out.2.2.1, by have := HLEN.out; simp only [roomComp] at this; omega⟩
      obtain ⟨D1, HD1⟩ : ∃ D1, Hid (ink D (iNum yk) = D1) := ⟨_, rfl⟩
      obtain ⟨D2, HD2⟩ : ∃ D2, Hid (ink D1 (iNum yn) = D2) := ⟨_, rfl⟩
      have HL1 : Hid (D1.1.length ≤ D.1.length + 6) := by show _ ≤ _; rw [← HD1.out, ink_length]; have := iNum_length yk; omega
      have HL2 : Hid (D2.1.length ≤ D1.1.length + 6) := by show _ ≤ _; rw [← HD2.out, ink_length]; have := iNum_length yn; omega
      have G1 := Lib.hid (GN.out D yk)
      have G2 := Lib.hid (GN.out D1 yn)
      rw [HD1.out] at G1 HNX
      rw [HD2.out] at G2 HNX
      have c1 := (HCK.out wr HOUT.out.upto).1
      go_wp2_with fail
      refine (G1.out _ (by have := HGT.out; omega) HOUT.out).mono ?_
      rintro e w2 ⟨rfl, h2⟩
      have H2 := Lib.hid h2; clear h2 c1
      have c2 := (HCK.out w2 H2.out.upto).2.1
      go_wp2_with fail
      refine (G2.out _ (by have := HGT.out; have := HL1.out; omega) H2.out).mono ?_
      rintro e w3 ⟨rfl, h3⟩
      have H3 := Lib.hid h3; clear h3 c2
      have c3 := (HCK.out w3 H3.out.upto).2.2
      go_wp2_with fail
      refine (GT.out D2 yt _ HGT.out.1 (by have := HGT.out; have := HL1.out; have := HL2.out; omega) H3.out).mono ?_
      rintro e w4 ⟨rfl, h4⟩
      have H4 := Lib.hid h4; clear h4 c3
      go_wp2
      go_roundw
      case rel => exact ⟨k + 1, by omega, by go_num, by rw [HNX.out]; exact H4.out⟩
      case measure => simp [intOf]; omega
    · obtain rfl : k = l.length := by omega
      rw [List.take_length] at HOUT
      go_wp2
      go_end0
      exact ⟨rfl, by rw [HEND.out]; exact HOUT.out⟩
end Go.Proofs.Ytkapfijokmajlaa

/- The contract of the document's own writer of nodes, (*ropewalkref1.Out).Nodes. Condition: no more than 2^40 bytes in all. -/
namespace Go.Proofs.Ytkapfijokmajlaa
open Go.RowKit Go.Deep

def roomNode (c : NodeV) : Nat := c.name.length + c.text.length + 30
def roomNodes (l : List NodeV) : Nat := (l.map roomNode).sum + 6
theorem iNode_length (c : NodeV) : (iNode c).1.length ≤ roomNode c := by
  have h0 := iNum_length c.id
  have h1 := iNum_length c.parent
  have h2 := iText_length c.name
  have h3 := iFlag_length c.dir
  have h4 := iText_length c.text
  simp only [iNode, ink, List.length_append, roomNode]
  omega

set_option maxHeartbeats 2000000 in
set_option maxRecDepth 100000 in
theorem refOutNodes_any (W : World) (g : Nat) (hWg : W.heap.size ≤ g) (c : Ink) (A : Option Addr) (l : List NodeV) (cap : Nat) (hg : ∀ y ∈ l, y.Good) (hl : c.1.length + roomNodes l ≤ 1099511627776) (hA : NodesAt W A l) (w : World) (h : OutAt W g c w) :
    Calls Try.prog 47 #[.pointer (some ⟨g, 0, none⟩), .slice A l.length cap] w fun e w' => e = .returned (.tuple #[]) ∧ OutAt W g (ink c (iNodes l)) w' := by
  have hlen : l.length ≤ (l.map roomNode).sum := by
    clear hA hg hl
    induction l with
    | nil => simp
    | cons x l ih => rw [List.map_cons, List.sum_cons, List.length_cons]; have : 1 ≤ roomNode x := by unfold roomNode; omega
                     omega
  unfold roomNodes at hl
  have GN := Lib.hid (fun (d : Ink) (n : Int) w (hd : d.1.length ≤ 1099511627776) hh => refOutNum_any W g d n hd w hh)
  have GT := Lib.hid (fun (d : Ink) (t : List Nat) w (hb : ∀ x ∈ t, x < 256) (hd : d.1.length + t.length + 6 ≤ 1099511627776) hh => refOutText_any W g d t hb hd w hh)
  have GFL := Lib.hid (fun (d : Ink) (b : Bool) w (hd : d.1.length ≤ 1099511627776) hh => refOutFlag_any W g d b hd w hh)
  have HA := Lib.hid hA; clear hA
  have HG := Lib.hid hg; clear hg
  have HL := Lib.hid hl
  have hln : l.length ≤ 1099511627776 := by omega
  have hc40 : c.1.length ≤ 1099511627776 := by omega
  clear hl hlen
  have H := Lib.hid h; clear h
  obtain ⟨C0, HC0⟩ : ∃ C0, Hid (ink c (iNum (l.length : Int)) = C0) := ⟨_, rfl⟩
  have HC0L : Hid (C0.1.length ≤ c.1.length + 6) := by show _ ≤ _; rw [← HC0.out, ink_length]; have := iNum_length (l.length : Int); omega
  have HEND : Hid (ink c (iNodes l) = ink C0 (inks (l.map iNode))) := by show _ = _; rw [iNodes, ← ink_assoc, HC0.out]
  obtain ⟨CE, HCE⟩ : ∃ CE, Hid (ink c (iNodes l) = CE) := ⟨_, rfl⟩
  rw [HCE.out] at HEND ⊢
  have GN0 := Lib.hid (GN.out c (l.length : Int))
  rw [HC0.out] at GN0
  go_enter Try.func47, Try.ntmps47
  go_wp2_with fail
  refine (GN0.out _ hc40 H.out).mono ?_
  rintro e w1 ⟨rfl, h1⟩
  have H1 := Lib.hid h1; clear h1
  go_wp2_with fail
  go_loopw [4] (fun i wr => ∃ k : Nat, k ≤ l.length ∧ i = .int .i64 k ∧ OutAt W g (ink C0 (inks ((l.take k).map iNode))) wr) (fun i _ => l.length - (intOf i).toNat)
  case atStart => exact ⟨0, Nat.zero_le _, rfl, by rw [List.take_zero, List.map_nil, inks, ink_none]; exact H1.out⟩
  case round =>
    obtain ⟨k, hk, rfl, hout⟩ := hrel
    have HOUT := Lib.hid hout; clear hout
    by_cases hlt : k < l.length
    · have HST := Lib.hid (inks_take iNode l k hlt)
      have HLEN : Hid ((ink C0 (inks ((l.take k).map iNode))).1.length + roomNode l[k] ≤ 1099511627776) := by
        show _ ≤ _
        rw [ink_length]
        have h1 := inks_length iNode roomNode iNode_length (l.take k)
        have h2 := sum_take_le roomNode l k hlt
        have := HL.out
        have := HC0L.out
        omega
      obtain ⟨D, HD⟩ : ∃ D, Hid (ink C0 (inks ((l.take k).map iNode)) = D) := ⟨_, rfl⟩
      have HNX : Hid (ink C0 (inks ((l.take (k + 1)).map iNode)) = ink (ink (ink (ink (ink D (iNum l[k].id)) (iNum l[k].parent)) (iText l[k].name)) (iFlag l[k].dir)) (iText l[k].text)) := by
        show _ = _
        rw [HST.out, ← ink_assoc, HD.out, iNode]
        simp only [ink_assoc]
      rw [HD.out] at HOUT HLEN
      have HGK := Lib.hid (HG.out _ (List.getElem_mem hlt))
      obtain ⟨b, bo, rfl, _⟩ := HA.out.form (by omega)
      have HAB : Hid (∀ wz : World, Below g W wz → NodesAt wz (some ⟨b, bo, none⟩) l) := fun wz hz => HA.out.below (hz.mono hWg)
      have HCK : Hid (∀ wz : World, Below g W wz → wz.cell? ⟨b, bo + k * 5, none⟩ = some (.int .i64 l[k].id) ∧ wz.cell? ⟨b, bo + k * 5 + 1, none⟩ = some (.int .i64 l[k].parent) ∧ wz.cell? ⟨b, bo + k * 5 + 2, none⟩ = some (.string (bstr l[k].name)) ∧ wz.cell? ⟨b, bo + k * 5 + 3, none⟩ = some (.bool l[k].dir) ∧ wz.cell? ⟨b, bo + k * 5 + 4, none⟩ = some (.string (bstr l[k].text))) := fun wz hz => (HAB.out wz hz).at_ hlt
      obtain ⟨Y, HY⟩ : ∃ Y, Hid (l[k] = Y) := ⟨l[k], Lib.hid rfl⟩
      rw [HY.out] at HGK HCK HNX HLEN
      obtain ⟨yi, yp, yn, yd, yt⟩ := Y
      simp only at HCK HNX
      have HRM : Hid (D.1.length + (yn.length + yt.length + 30) ≤ 1099511627776) := HLEN.out
      obtain ⟨D1, HD1⟩ : ∃ Z, Hid (ink D (iNum yi) = Z) := ⟨_, rfl⟩
      have HL1 : Hid (D1.1.length ≤ D.1.length + 6) := by show _ ≤ _; rw [← HD1.out, ink_length]; have := iNum_length yi; omega
      have G1 := Lib.hid (GN.out D yi)
      rw [HD1.out] at G1 HNX
      obtain ⟨D2, HD2⟩ : ∃ Z, Hid (ink D1 (iNum yp) = Z) := ⟨_, rfl⟩
      have HL2 : Hid (D2.1.length ≤ D1.1.length + 6) := by show _ ≤ _; rw [← HD2.out, ink_length]; have := iNum_length yp; omega
      have G2 := Lib.hid (GN.out D1 yp)
      rw [HD2.out] at G2 HNX
      obtain ⟨D3, HD3⟩ : ∃ Z, Hid (ink D2 (iText yn) = Z) := ⟨_, rfl⟩
      have HL3 : Hid (D3.1.length ≤ D2.1.length + (yn.length + 6)) := by show _ ≤ _; rw [← HD3.out, ink_length]; have := iText_length yn; omega
      have G3 := Lib.hid (GT.out D2 yn)
      rw [HD3.out] at G3 HNX
      obtain ⟨D4, HD4⟩ : ∃ Z, Hid (ink D3 (iFlag yd) = Z) := ⟨_, rfl⟩
      have HL4 : Hid (D4.1.length ≤ D3.1.length + 6) := by show _ ≤ _; rw [← HD4.out, ink_length]; have := iFlag_length yd; omega
      have G4 := Lib.hid (GFL.out D3 yd)
      rw [HD4.out] at G4 HNX
      have c0 := (HCK.out wr HOUT.out.upto).1
      go_wp2_with fail
      refine (G1.out _ (by have := HRM.out;  omega) HOUT.out).mono ?_
      rintro e w2 ⟨rfl, h2⟩
      have Hw2 := Lib.hid h2; clear h2 c0
      have c1 := (HCK.out w2 Hw2.out.upto).2.1
      go_wp2_with fail
      refine (G2.out _ (by have := HRM.out; have := HL1.out; omega) Hw2.out).mono ?_
      rintro e w3 ⟨rfl, h3⟩
      have Hw3 := Lib.hid h3; clear h3 c1
      have c2 := (HCK.out w3 Hw3.out.upto).2.2.1
      go_wp2_with fail
      refine (G3.out _ HGK.out.2.2.1.1 (by have := HRM.out; have := HL1.out; have := HL2.out; omega) Hw3.out).mono ?_
      rintro e w4 ⟨rfl, h4⟩
      have Hw4 := Lib.hid h4; clear h4 c2
      have c3 := (HCK.out w4 Hw4.out.upto).2.2.2.1
      go_wp2_with fail
      refine (G4.out _ (by have := HRM.out; have := HL1.out; have := HL2.out; have := HL3.out; omega) Hw4.out).mono ?_
      rintro e w5 ⟨rfl, h5⟩
      have Hw5 := Lib.hid h5; clear h5 c3
      have c4 := (HCK.out w5 Hw5.out.upto).2.2.2.2
      go_wp2_with fail
      refine (GT.out D4 yt _ HGK.out.2.2.2.1 (by have := HRM.out; have := HL1.out; have := HL2.out; have := HL3.out; have := HL4.out; omega) Hw5.out).mono ?_
      rintro e w6 ⟨rfl, h6⟩
      have Hw6 := Lib.hid h6; clear h6 c4
      go_wp2
      go_roundw
      case rel => exact ⟨k + 1, by omega, by go_num, by rw [HNX.out]; exact Hw6.out⟩
      case measure => simp [intOf]; omega
    · obtain rfl : k = l.length := by omega
      rw [List.take_length] at HOUT
      go_wp2
      go_end0
      exact ⟨rfl, by rw [HEND.out]; exact HOUT.out⟩
end Go.Proofs.Ytkapfijokmajlaa

/- The contract of the document's own writer of acts, (*ropewalkref1.Out).Acts. Condition: no more than 2^40 bytes in all. -/
namespace Go.Proofs.Ytkapfijokmajlaa
open Go.RowKit Go.Deep

def roomAct (c : ActV) : Nat := c.name.length + roomComps c.ops + 30
def roomActs (l : List ActV) : Nat := (l.map roomAct).sum + 6
theorem iAct_length (c : ActV) : (iAct c).1.length ≤ roomAct c := by
  have h0 := iNum_length c.kind
  have h1 := iNum_length c.id
  have h2 := iNum_length c.parent
  have h3 := iText_length c.name
  have h4 := iFlag_length c.dir
  have h5 := iComps_length c.ops
  simp only [iAct, ink, List.length_append, roomAct]
  omega

set_option maxHeartbeats 2000000 in
set_option maxRecDepth 100000 in
theorem refOutActs_any (W : World) (g : Nat) (hWg : W.heap.size ≤ g) (c : Ink) (A : Option Addr) (l : List ActV) (cap : Nat) (hg : ∀ y ∈ l, y.Good) (hl : c.1.length + roomActs l ≤ 1099511627776) (hA : ActsAt W A l) (w : World) (h : OutAt W g c w) :
    Calls Try.prog 46 #[.pointer (some ⟨g, 0, none⟩), .slice A l.length cap] w fun e w' => e = .returned (.tuple #[]) ∧ OutAt W g (ink c (iActs l)) w' := by
  have hlen : l.length ≤ (l.map roomAct).sum := by
    clear hA hg hl
    induction l with
    | nil => simp
    | cons x l ih => rw [List.map_cons, List.sum_cons, List.length_cons]; have : 1 ≤ roomAct x := by unfold roomAct; omega
                     omega
  unfold roomActs at hl
  have GN := Lib.hid (fun (d : Ink) (n : Int) w (hd : d.1.length ≤ 1099511627776) hh => refOutNum_any W g d n hd w hh)
  have GT := Lib.hid (fun (d : Ink) (t : List Nat) w (hb : ∀ x ∈ t, x < 256) (hd : d.1.length + t.length + 6 ≤ 1099511627776) hh => refOutText_any W g d t hb hd w hh)
  have GFL := Lib.hid (fun (d : Ink) (b : Bool) w (hd : d.1.length ≤ 1099511627776) hh => refOutFlag_any W g d b hd w hh)
  have GCM := Lib.hid (fun (d : Ink) (B : Option Addr) (m : List CompV) (cp : Nat) w (hgm : ∀ y ∈ m, y.Good) (hd : d.1.length + roomComps m ≤ 1099511627776) (hB : CompsAt W B m) hh => refOutComps_any W g hWg d B m cp hgm hd hB w hh)
  have HA := Lib.hid hA; clear hA
  have HG := Lib.hid hg; clear hg
  have HL := Lib.hid hl
  have hln : l.length ≤ 1099511627776 := by omega
  have hc40 : c.1.length ≤ 1099511627776 := by omega
  clear hl hlen
  have H := Lib.hid h; clear h
  obtain ⟨C0, HC0⟩ : ∃ C0, Hid (ink c (iNum (l.length : Int)) = C0) := ⟨_, rfl⟩
  have HC0L : Hid (C0.1.length ≤ c.1.length + 6) := by show _ ≤ _; rw [← HC0.out, ink_length]; have := iNum_length (l.length : Int); omega
  have HEND : Hid (ink c (iActs l) = ink C0 (inks (l.map iAct))) := by show _ = _; rw [iActs, ← ink_assoc, HC0.out]
  obtain ⟨CE, HCE⟩ : ∃ CE, Hid (ink c (iActs l) = CE) := ⟨_, rfl⟩
  rw [HCE.out] at HEND ⊢
  have GN0 := Lib.hid (GN.out c (l.length : Int))
  rw [HC0.out] at GN0
  go_enter Try.func46, Try.ntmps46
  go_wp2_with fail
  refine (GN0.out _ hc40 H.out).mono ?_
  rintro e w1 ⟨rfl, h1⟩
  have H1 := Lib.hid h1; clear h1
  go_wp2_with fail
  go_loopw [4] (fun i wr => ∃ k : Nat, k ≤ l.length ∧ i = .int .i64 k ∧ OutAt W g (ink C0 (inks ((l.take k).map iAct))) wr) (fun i _ => l.length - (intOf i).toNat)
  case atStart => exact ⟨0, Nat.zero_le _, rfl, by rw [List.take_zero, List.map_nil, inks, ink_none]; exact H1.out⟩
  case round =>
    obtain ⟨k, hk, rfl, hout⟩ := hrel
    have HOUT := Lib.hid hout; clear hout
    by_cases hlt : k < l.length
    · have HST := Lib.hid (inks_take iAct l k hlt)
      have HLEN : Hid ((ink C0 (inks ((l.take k).map iAct))).1.length + roomAct l[k] ≤ 1099511627776) := by
        show _ ≤ _
        rw [ink_length]
        have h1 := inks_length iAct roomAct iAct_length (l.take k)
        have h2 := sum_take_le roomAct l k hlt
        have := HL.out
        have := HC0L.out
        omega
      obtain ⟨D, HD⟩ : ∃ D, Hid (ink C0 (inks ((l.take k).map iAct)) = D) := ⟨_, rfl⟩
      have HNX : Hid (ink C0 (inks ((l.take (k + 1)).map iAct)) = ink (ink (ink (ink (ink (ink D (iNum l[k].kind)) (iNum l[k].id)) (iNum l[k].parent)) (iText l[k].name)) (iFlag l[k].dir)) (iComps l[k].ops)) := by
        show _ = _
        rw [HST.out, ← ink_assoc, HD.out, iAct]
        simp only [ink_assoc]
      rw [HD.out] at HOUT HLEN
      have HGK := Lib.hid (HG.out _ (List.getElem_mem hlt))
      have HOPS := Lib.hid (HA.out.2 _ (List.getElem_mem hlt))
      obtain ⟨b, bo, rfl, _⟩ := HA.out.form (by omega)
      have HAB : Hid (∀ wz : World, Below g W wz → ActsAt wz (some ⟨b, bo, none⟩) l) := fun wz hz => HA.out.below (hz.mono hWg)
      have HCK : Hid (∀ wz : World, Below g W wz → wz.cell? ⟨b, bo + k * 6, none⟩ = some (.int .i64 l[k].kind) ∧ wz.cell? ⟨b, bo + k * 6 + 1, none⟩ = some (.int .i64 l[k].id) ∧ wz.cell? ⟨b, bo + k * 6 + 2, none⟩ = some (.int .i64 l[k].parent) ∧ wz.cell? ⟨b, bo + k * 6 + 3, none⟩ = some (.string (bstr l[k].name)) ∧ wz.cell? ⟨b, bo + k * 6 + 4, none⟩ = some (.bool l[k].dir) ∧ wz.cell? ⟨b, bo + k * 6 + 5, none⟩ = some (.slice l[k].opsA l[k].ops.length l[k].opsC)) := fun wz hz => (HAB.out wz hz).at_ hlt
      obtain ⟨Y, HY⟩ : ∃ Y, Hid (l[k] = Y) := ⟨l[k], Lib.hid rfl⟩
      rw [HY.out] at HGK HCK HNX HLEN HOPS
      obtain ⟨yk, yi, yp, yn, yd, oA, oC, yo⟩ := Y
      simp only at HCK HNX HOPS
      have HRM : Hid (D.1.length + (yn.length + roomComps yo + 30) ≤ 1099511627776) := HLEN.out
      obtain ⟨D1, HD1⟩ : ∃ Z, Hid (ink D (iNum yk) = Z) := ⟨_, rfl⟩
      have HL1 : Hid (D1.1.length ≤ D.1.length + 6) := by show _ ≤ _; rw [← HD1.out, ink_length]; have := iNum_length yk; omega
      have G1 := Lib.hid (GN.out D yk)
      rw [HD1.out] at G1 HNX
      obtain ⟨D2, HD2⟩ : ∃ Z, Hid (ink D1 (iNum yi) = Z) := ⟨_, rfl⟩
      have HL2 : Hid (D2.1.length ≤ D1.1.length + 6) := by show _ ≤ _; rw [← HD2.out, ink_length]; have := iNum_length yi; omega
      have G2 := Lib.hid (GN.out D1 yi)
      rw [HD2.out] at G2 HNX
      obtain ⟨D3, HD3⟩ : ∃ Z, Hid (ink D2 (iNum yp) = Z) := ⟨_, rfl⟩
      have HL3 : Hid (D3.1.length ≤ D2.1.length + 6) := by show _ ≤ _; rw [← HD3.out, ink_length]; have := iNum_length yp; omega
      have G3 := Lib.hid (GN.out D2 yp)
      rw [HD3.out] at G3 HNX
      obtain ⟨D4, HD4⟩ : ∃ Z, Hid (ink D3 (iText yn) = Z) := ⟨_, rfl⟩
      have HL4 : Hid (D4.1.length ≤ D3.1.length + (yn.length + 6)) := by show _ ≤ _; rw [← HD4.out, ink_length]; have := iText_length yn; omega
      have G4 := Lib.hid (GT.out D3 yn)
      rw [HD4.out] at G4 HNX
      obtain ⟨D5, HD5⟩ : ∃ Z, Hid (ink D4 (iFlag yd) = Z) := ⟨_, rfl⟩
      have HL5 : Hid (D5.1.length ≤ D4.1.length + 6) := by show _ ≤ _; rw [← HD5.out, ink_length]; have := iFlag_length yd; omega
      have G5 := Lib.hid (GFL.out D4 yd)
      rw [HD5.out] at G5 HNX
      have c0 := (HCK.out wr HOUT.out.upto).1
      go_wp2_with fail
      refine (G1.out _ (by have := HRM.out;  omega) HOUT.out).mono ?_
      rintro e w2 ⟨rfl, h2⟩
      have Hw2 := Lib.hid h2; clear h2 c0
      have c1 := (HCK.out w2 Hw2.out.upto).2.1
      go_wp2_with fail
      refine (G2.out _ (by have := HRM.out; have := HL1.out; omega) Hw2.out).mono ?_
      rintro e w3 ⟨rfl, h3⟩
      have Hw3 := Lib.hid h3; clear h3 c1
      have c2 := (HCK.out w3 Hw3.out.upto).2.2.1
      go_wp2_with fail
      refine (G3.out _ (by have := HRM.out; have := HL1.out; have := HL2.out; omega) Hw3.out).mono ?_
      rintro e w4 ⟨rfl, h4⟩
      have Hw4 := Lib.hid h4; clear h4 c2
      have c3 := (HCK.out w4 Hw4.out.upto).2.2.2.1
      go_wp2_with fail
      refine (G4.out _ HGK.out.2.2.2.1.1 (by have := HRM.out; have := HL1.out; have := HL2.out; have := HL3.out; omega) Hw4.out).mono ?_
      rintro e w5 ⟨rfl, h5⟩
      have Hw5 := Lib.hid h5; clear h5 c3
      have c4 := (HCK.out w5 Hw5.out.upto).2.2.2.2.1
      go_wp2_with fail
      refine (G5.out _ (by have := HRM.out; have := HL1.out; have := HL2.out; have := HL3.out; have := HL4.out; omega) Hw5.out).mono ?_
      rintro e w6 ⟨rfl, h6⟩
      have Hw6 := Lib.hid h6; clear h6 c4
      have c5 := (HCK.out w6 Hw6.out.upto).2.2.2.2.2
      go_wp2_with fail
      refine (GCM.out D5 oA yo oC _ HGK.out.2.2.2.2.1 (by have := HRM.out; have := HL1.out; have := HL2.out; have := HL3.out; have := HL4.out; have := HL5.out; omega) HOPS.out Hw6.out).mono ?_
      rintro e w7 ⟨rfl, h7⟩
      have Hw7 := Lib.hid h7; clear h7 c5
      go_wp2
      go_roundw
      case rel => exact ⟨k + 1, by omega, by go_num, by rw [HNX.out]; exact Hw7.out⟩
      case measure => simp [intOf]; omega
    · obtain rfl : k = l.length := by omega
      rw [List.take_length] at HOUT
      go_wp2
      go_end0
      exact ⟨rfl, by rw [HEND.out]; exact HOUT.out⟩
end Go.Proofs.Ytkapfijokmajlaa

/- The contract of the statements' own made, over the items that they are called with: the bytes of all of them, as the document's own writer tells them. Condition: no more than 2^40 bytes in all. -/
namespace Go.Proofs.Ytkapfijokmajlaa
open Go.RowKit Go.Deep

noncomputable def iItem (y : ItemV) : Ink :=
  if y.kind = 1 then iNum y.n else if y.kind = 2 then iText y.s else if y.kind = 3 then iFlag y.yes else if y.kind = 4 then iComps y.comps else if y.kind = 5 then iActs y.acts else if y.kind = 6 then iNodes y.nodes else noInk
def roomItem (y : ItemV) : Nat := y.s.length + 6 + roomComps y.comps + roomActs y.acts + roomNodes y.nodes
theorem iActs_length (l : List ActV) : (iActs l).1.length ≤ roomActs l := by
  have h1 := iNum_length (l.length : Int)
  have h2 := inks_length iAct roomAct iAct_length l
  rw [iActs, ink_length, roomActs]
  omega
theorem iNodes_length (l : List NodeV) : (iNodes l).1.length ≤ roomNodes l := by
  have h1 := iNum_length (l.length : Int)
  have h2 := inks_length iNode roomNode iNode_length l
  rw [iNodes, ink_length, roomNodes]
  omega
theorem iItem_length (y : ItemV) : (iItem y).1.length ≤ roomItem y := by
  have h1 := iNum_length y.n
  have h2 := iText_length y.s
  have h3 := iFlag_length y.yes
  have h4 := iComps_length y.comps
  have h5 := iActs_length y.acts
  have h6 := iNodes_length y.nodes
  unfold iItem roomItem
  repeat' split
  all_goals first | omega | (simp [noInk])

/-- What the light weight bounds. -/
theorem sum_le_mul {α : Type} (f g : α → Nat) (m : Nat) (l : List α) (h : ∀ x ∈ l, f x ≤ m * g x) : (l.map f).sum ≤ m * (l.map g).sum := by
  induction l with
  | nil => simp
  | cons x l ih =>
    rw [List.map_cons, List.sum_cons, List.map_cons, List.sum_cons, Nat.mul_add]
    have := h x (by simp)
    have := ih (fun y hy => h y (by simp [hy]))
    omega
theorem le_sum {α : Type} (f : α → Nat) (l : List α) (x : α) (hx : x ∈ l) : f x ≤ (l.map f).sum := by
  induction l with
  | nil => cases hx
  | cons y l ih =>
    rw [List.map_cons, List.sum_cons]
    rcases List.mem_cons.1 hx with rfl | hx
    · omega
    · have := ih hx; omega
theorem compsWeight_spec (l : List CompV) (h : compsWeight 3000 l ≤ 3000) : compsWeight 3000 l = (l.map fun c => (compTerms c).sum).sum := by
  have := wts_spec 3000 (by omega) _ 0 h
  rw [compsWeight, this, List.map_map, Nat.zero_add]
  rfl
theorem nodesWeight_spec (l : List NodeV) (h : nodesWeight 3000 l ≤ 3000) : nodesWeight 3000 l = (l.map fun c => (nodeTerms c).sum).sum := by
  have := wts_spec 3000 (by omega) _ 0 h
  rw [nodesWeight, this, List.map_map, Nat.zero_add]
  rfl
theorem actsWeight_spec (l : List ActV) (h : actsWeight 3000 l ≤ 3000) : actsWeight 3000 l = (l.map fun c => (actTerms 3000 c).sum).sum := by
  have := wts_spec 3000 (by omega) _ 0 h
  rw [actsWeight, this, List.map_map, Nat.zero_add]
  rfl
theorem itemsWeight_spec (l : List ItemV) (h : itemsWeight l ≤ 3000) : itemsWeight l = (l.map fun c => (itemTerms c).sum).sum := by
  have := wts_spec 3000 (by omega) _ 0 h
  rw [itemsWeight, this, List.map_map, Nat.zero_add]
  rfl
theorem roomComps_le (l : List CompV) (h : compsWeight 3000 l ≤ 3000) : roomComps l ≤ 9 * compsWeight 3000 l + 6 := by
  rw [compsWeight_spec l h, roomComps]
  have := sum_le_mul roomComp (fun c => (compTerms c).sum) 9 l (fun c _ => by simp [roomComp, compTerms]; omega)
  omega
theorem roomNodes_le (l : List NodeV) (h : nodesWeight 3000 l ≤ 3000) : roomNodes l ≤ 10 * nodesWeight 3000 l + 6 := by
  rw [nodesWeight_spec l h, roomNodes]
  have := sum_le_mul roomNode (fun c => (nodeTerms c).sum) 10 l (fun c _ => by simp [roomNode, nodeTerms]; omega)
  omega
theorem roomActs_le (l : List ActV) (h : actsWeight 3000 l ≤ 3000) : roomActs l ≤ 12 * actsWeight 3000 l + 6 := by
  have e := actsWeight_spec l h
  rw [e] at h ⊢
  rw [roomActs]
  have := sum_le_mul roomAct (fun c => (actTerms 3000 c).sum) 12 l (fun c hc => by
    have h1 := le_sum (fun c => (actTerms 3000 c).sum) l c hc
    have h2 : compsWeight 3000 c.ops ≤ 3000 := by
      have : compsWeight 3000 c.ops ≤ (actTerms 3000 c).sum := by simp [actTerms]; omega
      omega
    have h3 := roomComps_le c.ops h2
    simp [roomAct, actTerms]
    omega)
  omega
theorem roomItems_le (l : List ItemV) (h : itemsWeight l ≤ 3000) : (l.map roomItem).sum ≤ 36000 := by
  have e := itemsWeight_spec l h
  rw [e] at h
  have := sum_le_mul roomItem (fun c => (itemTerms c).sum) 12 l (fun c hc => by
    have h1 := le_sum (fun c => (itemTerms c).sum) l c hc
    have h2 : c.s.length + compsWeight 3000 c.comps + actsWeight 3000 c.acts + nodesWeight 3000 c.nodes + 4 = (itemTerms c).sum := by simp [itemTerms]; omega
    have h3 := roomComps_le c.comps (by omega)
    have h4 := roomActs_le c.acts (by omega)
    have h5 := roomNodes_le c.nodes (by omega)
    unfold roomItem
    omega)
  omega
theorem items_count (l : List ItemV) (h : itemsWeight l ≤ 3000) : l.length ≤ 3000 := by
  have e := itemsWeight_spec l h
  rw [e] at h
  have : l.length ≤ (l.map fun c => (itemTerms c).sum).sum := by
    clear e h
    induction l with
    | nil => simp
    | cons x l ih => rw [List.map_cons, List.sum_cons, List.length_cons]; have : 1 ≤ (itemTerms x).sum := by simp [itemTerms]; omega
                     omega
  omega

set_option maxHeartbeats 4000000 in
set_option maxRecDepth 100000 in
theorem made_row (b bo cap : Nat) (l : List ItemV) (hln : l.length ≤ 3000) (hg : ∀ y ∈ l, y.Good) (hl : (l.map roomItem).sum ≤ 1099511627000) (w : World) (hA : ItemsAt w (some ⟨b, bo, none⟩) l) :
    Calls Try.prog 10 #[.slice (some ⟨b, bo, none⟩) l.length cap] w fun e w' => DoneEnd w.heap.size (inks (l.map iItem)) w' e ∧ Below w.heap.size w w' := by
  have HA := Lib.hid hA; clear hA
  have HG := Lib.hid hg; clear hg
  have HL := Lib.hid hl; clear hl
  obtain ⟨CE, HCE⟩ : ∃ CE, Hid (inks (l.map iItem) = CE) := ⟨_, rfl⟩
  rw [HCE.out]
  have GD := Lib.hid (fun w' (hh : OutAt w w.heap.size CE w') => refOutDone_any w w.heap.size CE w' hh)
  go_enter Try.func10, Try.ntmps10
  go_wp2
  go_loopw [5] (fun i wr => ∃ k : Nat, k ≤ l.length ∧ i = .int .i64 k ∧ OutAt w w.heap.size (inks ((l.take k).map iItem)) wr) (fun i _ => l.length - (intOf i).toNat)
  case atStart => exact ⟨0, Nat.zero_le _, rfl, by rw [List.take_zero, List.map_nil, inks]; exact OutAt.start w⟩
  case round =>
    obtain ⟨k, hk, rfl, hout⟩ := hrel
    have HOUT := Lib.hid hout; clear hout
    by_cases hlt : k < l.length
    · have HST := Lib.hid (inks_take iItem l k hlt)
      have HLEN : Hid ((inks ((l.take k).map iItem)).1.length + roomItem l[k] ≤ 1099511627000) := by
        show _ ≤ _
        have h1 := inks_length iItem roomItem iItem_length (l.take k)
        have h2 := sum_take_le roomItem l k hlt
        have := HL.out
        omega
      obtain ⟨D, HD⟩ : ∃ D, Hid (inks ((l.take k).map iItem) = D) := ⟨_, rfl⟩
      rw [HD.out] at HOUT HLEN HST
      have hgk := HG.out _ (List.getElem_mem hlt)
      have hats := HA.out.2 _ (List.getElem_mem hlt)
      have hcells := fun f hf => (HA.out.below HOUT.out.upto).at_ hlt f hf
      obtain ⟨Y, HY⟩ : ∃ Y, Hid (l[k] = Y) := ⟨l[k], Lib.hid rfl⟩
      rw [HY.out] at hgk hats HLEN HST
      simp only [HY.out] at hcells
      obtain ⟨yk, yn, ys, yy, cA, cC, cs, aA, aC, as_, nA, nC, ns⟩ := Y
      obtain ⟨_, _, hgs, hgc, hga, hgn, _, _, _⟩ := hgk
      obtain ⟨hatc, hata, hatn⟩ := hats
      simp only at hgs hgc hga hgn hatc hata hatn
      have q0 : wr.cell? ⟨b, bo + k * 7, none⟩ = some (.int .i64 yk) := hcells 0 (by omega)
      have q1 : Hid (wr.cell? ⟨b, bo + k * 7 + 1, none⟩ = some (.int .i64 yn)) := by show _ = _; rw [Nat.add_assoc]; exact hcells 1 (by omega)
      have q2 : Hid (wr.cell? ⟨b, bo + k * 7 + 2, none⟩ = some (.string (bstr ys))) := by show _ = _; rw [Nat.add_assoc]; exact hcells 2 (by omega)
      have q3 : Hid (wr.cell? ⟨b, bo + k * 7 + 3, none⟩ = some (.bool yy)) := by show _ = _; rw [Nat.add_assoc]; exact hcells 3 (by omega)
      have q4 : Hid (wr.cell? ⟨b, bo + k * 7 + 4, none⟩ = some (.slice cA cs.length cC)) := by show _ = _; rw [Nat.add_assoc]; exact hcells 4 (by omega)
      have q5 : Hid (wr.cell? ⟨b, bo + k * 7 + 5, none⟩ = some (.slice aA as_.length aC)) := by show _ = _; rw [Nat.add_assoc]; exact hcells 5 (by omega)
      have q6 : Hid (wr.cell? ⟨b, bo + k * 7 + 6, none⟩ = some (.slice nA ns.length nC)) := by show _ = _; rw [Nat.add_assoc]; exact hcells 6 (by omega)
      have HRM : Hid (D.1.length + (ys.length + 6 + roomComps cs + roomActs as_ + roomNodes ns) ≤ 1099511627000) := HLEN.out
      have HIT : Hid (iItem ⟨yk, yn, ys, yy, cA, cC, cs, aA, aC, as_, nA, nC, ns⟩ = if yk = 1 then iNum yn else if yk = 2 then iText ys else if yk = 3 then iFlag yy else if yk = 4 then iComps cs else if yk = 5 then iActs as_ else if yk = 6 then iNodes ns else noInk) := rfl
      rw [HIT.out] at HST
      have G1 : Hid (Calls Try.prog 34 #[.pointer (some ⟨w.heap.size, 0, none⟩), .int .i64 yn] wr fun e w' => e = .returned (.tuple #[]) ∧ OutAt w w.heap.size (ink D (iNum yn)) w') := refOutNum_any w _ D yn (by have := HRM.out; omega) wr HOUT.out
      have G2 : Hid (Calls Try.prog 43 #[.pointer (some ⟨w.heap.size, 0, none⟩), .string (bstr ys)] wr fun e w' => e = .returned (.tuple #[]) ∧ OutAt w w.heap.size (ink D (iText ys)) w') := refOutText_any w _ D ys hgs.1 (by have := HRM.out; omega) wr HOUT.out
      have G3 : Hid (Calls Try.prog 44 #[.pointer (some ⟨w.heap.size, 0, none⟩), .bool yy] wr fun e w' => e = .returned (.tuple #[]) ∧ OutAt w w.heap.size (ink D (iFlag yy)) w') := refOutFlag_any w _ D yy (by have := HRM.out; omega) wr HOUT.out
      have G4 : Hid (Calls Try.prog 45 #[.pointer (some ⟨w.heap.size, 0, none⟩), .slice cA cs.length cC] wr fun e w' => e = .returned (.tuple #[]) ∧ OutAt w w.heap.size (ink D (iComps cs)) w') := refOutComps_any w _ (Nat.le_refl _) D cA cs cC hgc (by have := HRM.out; omega) hatc wr HOUT.out
      have G5 : Hid (Calls Try.prog 46 #[.pointer (some ⟨w.heap.size, 0, none⟩), .slice aA as_.length aC] wr fun e w' => e = .returned (.tuple #[]) ∧ OutAt w w.heap.size (ink D (iActs as_)) w') := refOutActs_any w _ (Nat.le_refl _) D aA as_ aC hga (by have := HRM.out; omega) hata wr HOUT.out
      have G6 : Hid (Calls Try.prog 47 #[.pointer (some ⟨w.heap.size, 0, none⟩), .slice nA ns.length nC] wr fun e w' => e = .returned (.tuple #[]) ∧ OutAt w w.heap.size (ink D (iNodes ns)) w') := refOutNodes_any w _ (Nat.le_refl _) D nA ns nC hgn (by have := HRM.out; omega) hatn wr HOUT.out
      clear hgs hgc hga hgn hatc hata hatn hcells
      by_cases hk1 : yk = 1
      · subst hk1
        have HNX : Hid (inks ((l.take (k + 1)).map iItem) = ink D (iNum yn)) := by show _ = _; rw [HST.out, if_pos rfl]
        have qq := q1.out
        go_wp2_with fail
        refine G1.out.mono ?_
        rintro e w2 ⟨rfl, h2⟩
        have H2 := Lib.hid h2; clear h2 q0 qq
        go_wp2
        go_roundw
        case rel => exact ⟨k + 1, by omega, by go_num, by rw [HNX.out]; exact H2.out⟩
        case measure => simp [intOf]; omega
      by_cases hk2 : yk = 2
      · subst hk2
        have HNX : Hid (inks ((l.take (k + 1)).map iItem) = ink D (iText ys)) := by show _ = _; rw [HST.out, if_neg (by omega), if_pos rfl]
        have qq := q2.out
        go_wp2_with fail
        refine G2.out.mono ?_
        rintro e w2 ⟨rfl, h2⟩
        have H2 := Lib.hid h2; clear h2 q0 qq
        go_wp2
        go_roundw
        case rel => exact ⟨k + 1, by omega, by go_num, by rw [HNX.out]; exact H2.out⟩
        case measure => simp [intOf]; omega
      by_cases hk3 : yk = 3
      · subst hk3
        have HNX : Hid (inks ((l.take (k + 1)).map iItem) = ink D (iFlag yy)) := by show _ = _; rw [HST.out, if_neg (by omega), if_neg (by omega), if_pos rfl]
        have qq := q3.out
        go_wp2_with fail
        refine G3.out.mono ?_
        rintro e w2 ⟨rfl, h2⟩
        have H2 := Lib.hid h2; clear h2 q0 qq
        go_wp2
        go_roundw
        case rel => exact ⟨k + 1, by omega, by go_num, by rw [HNX.out]; exact H2.out⟩
        case measure => simp [intOf]; omega
      by_cases hk4 : yk = 4
      · subst hk4
        have HNX : Hid (inks ((l.take (k + 1)).map iItem) = ink D (iComps cs)) := by show _ = _; rw [HST.out, if_neg (by omega), if_neg (by omega), if_neg (by omega), if_pos rfl]
        have qq := q4.out
        go_wp2_with fail
        refine G4.out.mono ?_
        rintro e w2 ⟨rfl, h2⟩
        have H2 := Lib.hid h2; clear h2 q0 qq
        go_wp2
        go_roundw
        case rel => exact ⟨k + 1, by omega, by go_num, by rw [HNX.out]; exact H2.out⟩
        case measure => simp [intOf]; omega
      by_cases hk5 : yk = 5
      · subst hk5
        have HNX : Hid (inks ((l.take (k + 1)).map iItem) = ink D (iActs as_)) := by show _ = _; rw [HST.out, if_neg (by omega), if_neg (by omega), if_neg (by omega), if_neg (by omega), if_pos rfl]
        have qq := q5.out
        go_wp2_with fail
        refine G5.out.mono ?_
        rintro e w2 ⟨rfl, h2⟩
        have H2 := Lib.hid h2; clear h2 q0 qq
        go_wp2
        go_roundw
        case rel => exact ⟨k + 1, by omega, by go_num, by rw [HNX.out]; exact H2.out⟩
        case measure => simp [intOf]; omega
      by_cases hk6 : yk = 6
      · subst hk6
        have HNX : Hid (inks ((l.take (k + 1)).map iItem) = ink D (iNodes ns)) := by show _ = _; rw [HST.out, if_neg (by omega), if_neg (by omega), if_neg (by omega), if_neg (by omega), if_neg (by omega), if_pos rfl]
        have qq := q6.out
        go_wp2_with fail
        refine G6.out.mono ?_
        rintro e w2 ⟨rfl, h2⟩
        have H2 := Lib.hid h2; clear h2 q0 qq
        go_wp2
        go_roundw
        case rel => exact ⟨k + 1, by omega, by go_num, by rw [HNX.out]; exact H2.out⟩
        case measure => simp [intOf]; omega
      · have HNX : Hid (inks ((l.take (k + 1)).map iItem) = D) := by show _ = _; rw [HST.out, if_neg hk1, if_neg hk2, if_neg hk3, if_neg hk4, if_neg hk5, if_neg hk6, ink_none]
        go_wp2
        go_roundw
        case rel => exact ⟨k + 1, by omega, by go_num, by rw [HNX.out]; exact HOUT.out⟩
        case measure => simp [intOf]; omega
    · obtain rfl : k = l.length := by omega
      rw [List.take_length, HCE.out] at HOUT
      go_wp2_with fail
      refine (GD.out _ HOUT.out).mono ?_
      rintro e w2 ⟨hd, rfl⟩
      rcases hd with ⟨h1, rfl⟩ | ⟨h1, A5, k5, rfl, ho5⟩
      · have HH := Lib.hid h1; clear h1
        go_wp2
        go_ret2
        exact ⟨.inl ⟨HH.out, rfl⟩, HOUT.out.upto⟩
      · have HH := Lib.hid h1; clear h1
        have HO5 := Lib.hid ho5; clear ho5
        go_wp2
        go_ret2
        exact ⟨.inr ⟨HH.out, A5, k5, rfl, HO5.out⟩, HOUT.out.upto⟩
end Go.Proofs.Ytkapfijokmajlaa
