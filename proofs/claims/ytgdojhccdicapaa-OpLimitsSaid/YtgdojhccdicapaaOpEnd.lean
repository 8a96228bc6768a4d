/- The landed end of a stretch: what it kept, its text, and what is gone go behind what was made, and another one begins. Condition: no more than 2^38 parts and 2^40 bytes. -/
import Derived.Test.YtgdojhccdicapaaOpStretch
namespace Go.Proofs.Ytgdojhccdicapaa
open Go.RowKit Go.Deep Go.Lib

theorem NowAt.pushed {g B : Nat} {out out' : List CompV} {keep gone : Int} {tx : List Nat} {o o' : Value} {X : Obj} {W w w' : World} (h : NowAt g B ⟨out, keep, gone, tx⟩ o w) (ha : Aside g B W w) (hg : (w.alloc X).grownBy w' o.ownBlock)
    (ho : w'.ownsRow B 35 3 o' out'.length (out'.flatMap compCells)) : NowAt g B ⟨out', keep, gone, tx⟩ o' w' ∧ Aside g B W w' := by
  have h1 : Below w.heap.size w (w.alloc X) := (Below.refl _ _).alloc (Nat.le_refl _) _
  have h2 := h.below h1
  exact ⟨h2.push hg ho, (ha.trans (.of_below h1 h.up)).grown hg h2.up (fun k e => (h2.row.lt k e).1)⟩
/-- What is left behind a stretch's end. -/
def EndEnd (g B : Nat) (s : NS) (w : World) (e : Ending) (w' : World) : Prop := ∃ o, e = .returned o ∧ NowAt g B ⟨s.flush, 0, 0, []⟩ o w' ∧ Aside g B w w'
set_option maxHeartbeats 8000000 in
set_option maxRecDepth 100000 in
theorem opEnd_any (g B : Nat) (s : NS) (o : Value) (hout : s.out.length ≤ 274877906944) (htl : s.text.length ≤ 1099511627776) (w : World) (h : NowAt g B s o w) :
    Calls Try.prog 33 #[.pointer (some ⟨g, 0, none⟩), o] w (EndEnd g B s w) := by
  have GR := Lib.hid (fun n w => opRetain_any n w)
  have GI := Lib.hid (fun t w => opInsert_any t w)
  have GD := Lib.hid (fun n w => opRemove_any n w)
  obtain ⟨out0, keep, gone, tx⟩ := s
  simp only at hout htl
  have HLEN0 : Hid (out0.length ≤ 274877906944) := hout
  have H0 := Lib.hid h; clear h hout
  have HA0 := Lib.hid (Aside.refl g B w)
  obtain ⟨o0, HO0⟩ : ∃ x, Hid (o = x) := ⟨_, rfl⟩
  rw [HO0.out] at H0 ⊢
  obtain ⟨w0, HW0⟩ : ∃ x, Hid (w = x) := ⟨_, rfl⟩
  rw [HW0.out] at H0 HA0 ⊢
  obtain ⟨A0, c0, z00, z01, z02, y00, y01, y02, ht0, hr0⟩ := H0.out.read
  have HT0 := Lib.hid ht0; clear ht0
  have HR0 := Lib.hid hr0; clear hr0
  simp only at z00 z01 z02 HT0 HR0
  by_cases hk : 0 < keep
  · skip
    by_cases ht : tx = []
    · subst ht
      simp only [List.length_nil] at z01
      by_cases hg : 0 < gone
      · skip
        have QK : Hid (keepOf keep = [⟨1, keep, []⟩]) := if_pos hk
        have QT : Hid (textOf [] = []) := if_pos rfl
        have QG : Hid (goneOf gone = [⟨3, gone, []⟩]) := if_pos hg
        go_enter Try.func33, Try.ntmps33
        go_wp2_with fail
        refine (GR.out keep _).mono ?_
        rintro e v1 ⟨rfl, hb1⟩
        have K1 := Lib.hid (H0.out.below hb1)
        have KA1 := Lib.hid (HA0.out.trans (Aside.of_below hb1 H0.out.up))
        clear hb1
        go_wp2_with (at_builtin
                     refine wpList_push2 rfl (.tmp 10) (.tmp 16) rfl B o0 out0 ⟨1, keep, []⟩ rfl K1.out.row K1.out.up rfl (by have := HLEN0.out; omega) ?_
                     intro out1 B1 d1 w1 ho1 hown1 hgr1
                     have HO1 := Lib.hid ho1
                     obtain ⟨o1, HOO1⟩ : ∃ o, Hid (o = Value.slice B1 out1.length d1) := ⟨_, rfl⟩
                     rw [← HOO1.out] at hown1 ⊢
                     have hp1 := K1.out.pushed KA1.out hgr1 hown1
                     have H1 := Lib.hid hp1.1
                     have HA1 := Lib.hid hp1.2
                     have HLEN1 : Hid (out1.length ≤ 274877906945) := by show _ ≤ _; rw [HO1.out, List.length_append]; have := HLEN0.out; simp only [List.length_cons, List.length_nil]; omega
                     clear ho1 hown1 hgr1 hp1
                     obtain ⟨A1, c1, z10, z11, z12, y10, y11, y12, ht1, hr1⟩ := H1.out.read
                     have HT1 := Lib.hid ht1; clear ht1
                     have HR1 := Lib.hid hr1; clear hr1
                     simp only at z10 z11 z12 HT1 HR1
                     simp only [List.length_nil] at z11)
        go_wp2_with fail
        refine (GD.out gone _).mono ?_
        rintro e v2 ⟨rfl, hb2⟩
        have K2 := Lib.hid (H1.out.below hb2)
        have KA2 := Lib.hid (HA1.out.trans (Aside.of_below hb2 H1.out.up))
        clear hb2
        go_wp2_with (at_builtin
                     refine wpList_push2 rfl (.tmp 38) (.tmp 44) rfl B o1 out1 ⟨3, gone, []⟩ rfl K2.out.row K2.out.up rfl (by have := HLEN1.out; omega) ?_
                     intro out2 B2 d2 w2 ho2 hown2 hgr2
                     have HO2 := Lib.hid ho2
                     obtain ⟨o2, HOO2⟩ : ∃ o, Hid (o = Value.slice B2 out2.length d2) := ⟨_, rfl⟩
                     rw [← HOO2.out] at hown2 ⊢
                     have hp2 := K2.out.pushed KA2.out hgr2 hown2
                     have H2 := Lib.hid hp2.1
                     have HA2 := Lib.hid hp2.2
                     have HLEN2 : Hid (out2.length ≤ 274877906946) := by show _ ≤ _; rw [HO2.out, List.length_append]; have := HLEN1.out; simp only [List.length_cons, List.length_nil]; omega
                     clear ho2 hown2 hgr2 hp2
                     obtain ⟨A2, c2, z20, z21, z22, y20, y21, y22, ht2, hr2⟩ := H2.out.read
                     have HT2 := Lib.hid ht2; clear ht2
                     have HR2 := Lib.hid hr2; clear hr2
                     simp only at z20 z21 z22 HT2 HR2
                     simp only [List.length_nil] at z21
                     have SL : ∀ w, (Instr.slice 46 (.slice A2 0 c2) none (some (.int .i64 0)) none).run Try.prog w = .ok (.slice (addrHigh A2 c2) 0 c2) w := fun w => slice_high A2 0 c2 0 (Nat.zero_le _) w
                     have r1 := HR2.out.set 0 (.int .i64 0)
                     have x1 := r1.cell (i := 1) (by omega)
                     have f1 := r1.frozen 1
                     have r2 := r1.set 1 (.slice (addrHigh A2 c2) 0 c2)
                     have x2 := r2.cell (i := 2) (by omega)
                     have f2 := r2.frozen 2
                     replace x1 : World.cell? _ ⟨g, 1, none⟩ = some (.slice A2 0 c2) := x1
                     replace x2 : World.cell? _ ⟨g, 2, none⟩ = some (.int .i64 gone) := x2
                     clear r1 r2)
        go_ret
        have HE : NS.flush ⟨out0, keep, gone, []⟩ = out2 := by
          show out0 ++ keepOf keep ++ textOf [] ++ goneOf gone = out2
          rw [QK.out, QT.out, QG.out]
          simp [HO2.out, HO1.out]
        refine ⟨o2, rfl, ?_, ((HA2.out.set 0 _).set 1 _).set 2 _⟩
        rw [HE]
        exact H2.out.begin HT2.out
      · skip
        have QK : Hid (keepOf keep = [⟨1, keep, []⟩]) := if_pos hk
        have QT : Hid (textOf [] = []) := if_pos rfl
        have QG : Hid (goneOf gone = []) := if_neg hg
        go_enter Try.func33, Try.ntmps33
        go_wp2_with fail
        refine (GR.out keep _).mono ?_
        rintro e v1 ⟨rfl, hb1⟩
        have K1 := Lib.hid (H0.out.below hb1)
        have KA1 := Lib.hid (HA0.out.trans (Aside.of_below hb1 H0.out.up))
        clear hb1
        go_wp2_with (at_builtin
                     refine wpList_push2 rfl (.tmp 10) (.tmp 16) rfl B o0 out0 ⟨1, keep, []⟩ rfl K1.out.row K1.out.up rfl (by have := HLEN0.out; omega) ?_
                     intro out1 B1 d1 w1 ho1 hown1 hgr1
                     have HO1 := Lib.hid ho1
                     obtain ⟨o1, HOO1⟩ : ∃ o, Hid (o = Value.slice B1 out1.length d1) := ⟨_, rfl⟩
                     rw [← HOO1.out] at hown1 ⊢
                     have hp1 := K1.out.pushed KA1.out hgr1 hown1
                     have H1 := Lib.hid hp1.1
                     have HA1 := Lib.hid hp1.2
                     have HLEN1 : Hid (out1.length ≤ 274877906945) := by show _ ≤ _; rw [HO1.out, List.length_append]; have := HLEN0.out; simp only [List.length_cons, List.length_nil]; omega
                     clear ho1 hown1 hgr1 hp1
                     obtain ⟨A1, c1, z10, z11, z12, y10, y11, y12, ht1, hr1⟩ := H1.out.read
                     have HT1 := Lib.hid ht1; clear ht1
                     have HR1 := Lib.hid hr1; clear hr1
                     simp only at z10 z11 z12 HT1 HR1
                     simp only [List.length_nil] at z11
                     have SL : ∀ w, (Instr.slice 46 (.slice A1 0 c1) none (some (.int .i64 0)) none).run Try.prog w = .ok (.slice (addrHigh A1 c1) 0 c1) w := fun w => slice_high A1 0 c1 0 (Nat.zero_le _) w
                     have r1 := HR1.out.set 0 (.int .i64 0)
                     have x1 := r1.cell (i := 1) (by omega)
                     have f1 := r1.frozen 1
                     have r2 := r1.set 1 (.slice (addrHigh A1 c1) 0 c1)
                     have x2 := r2.cell (i := 2) (by omega)
                     have f2 := r2.frozen 2
                     replace x1 : World.cell? _ ⟨g, 1, none⟩ = some (.slice A1 0 c1) := x1
                     replace x2 : World.cell? _ ⟨g, 2, none⟩ = some (.int .i64 gone) := x2
                     clear r1 r2)
        go_ret
        have HE : NS.flush ⟨out0, keep, gone, []⟩ = out1 := by
          show out0 ++ keepOf keep ++ textOf [] ++ goneOf gone = out1
          rw [QK.out, QT.out, QG.out]
          simp [HO1.out]
        refine ⟨o1, rfl, ?_, ((HA1.out.set 0 _).set 1 _).set 2 _⟩
        rw [HE]
        exact H1.out.begin HT1.out
    · have hl0 : 0 < tx.length := List.length_pos_iff.2 ht
      by_cases hg : 0 < gone
      · skip
        have QK : Hid (keepOf keep = [⟨1, keep, []⟩]) := if_pos hk
        have QT : Hid (textOf tx = [⟨2, 0, tx⟩]) := if_neg ht
        have QG : Hid (goneOf gone = [⟨3, gone, []⟩]) := if_pos hg
        go_enter Try.func33, Try.ntmps33
        go_wp2_with fail
        refine (GR.out keep _).mono ?_
        rintro e v1 ⟨rfl, hb1⟩
        have K1 := Lib.hid (H0.out.below hb1)
        have KA1 := Lib.hid (HA0.out.trans (Aside.of_below hb1 H0.out.up))
        clear hb1
        go_wp2_with (at_builtin
                     refine wpList_push2 rfl (.tmp 10) (.tmp 16) rfl B o0 out0 ⟨1, keep, []⟩ rfl K1.out.row K1.out.up rfl (by have := HLEN0.out; omega) ?_
                     intro out1 B1 d1 w1 ho1 hown1 hgr1
                     have HO1 := Lib.hid ho1
                     obtain ⟨o1, HOO1⟩ : ∃ o, Hid (o = Value.slice B1 out1.length d1) := ⟨_, rfl⟩
                     rw [← HOO1.out] at hown1 ⊢
                     have hp1 := K1.out.pushed KA1.out hgr1 hown1
                     have H1 := Lib.hid hp1.1
                     have HA1 := Lib.hid hp1.2
                     have HLEN1 : Hid (out1.length ≤ 274877906945) := by show _ ≤ _; rw [HO1.out, List.length_append]; have := HLEN0.out; simp only [List.length_cons, List.length_nil]; omega
                     clear ho1 hown1 hgr1 hp1
                     obtain ⟨A1, c1, z10, z11, z12, y10, y11, y12, ht1, hr1⟩ := H1.out.read
                     have HT1 := Lib.hid ht1; clear ht1
                     have HR1 := Lib.hid hr1; clear hr1
                     simp only at z10 z11 z12 HT1 HR1
                     have CV := (BytesAt.of_own HT1.out rfl).conv c1 9 Try.underlying9)
        go_wp2_with fail
        refine (GI.out tx _).mono ?_
        rintro e v2 ⟨rfl, hb2⟩
        have K2 := Lib.hid (H1.out.below hb2)
        have KA2 := Lib.hid (HA1.out.trans (Aside.of_below hb2 H1.out.up))
        clear hb2
        go_wp2_with (at_builtin
                     refine wpList_push2 rfl (.tmp 24) (.tmp 31) rfl B o1 out1 ⟨2, 0, tx⟩ rfl K2.out.row K2.out.up rfl (by have := HLEN1.out; omega) ?_
                     intro out2 B2 d2 w2 ho2 hown2 hgr2
                     have HO2 := Lib.hid ho2
                     obtain ⟨o2, HOO2⟩ : ∃ o, Hid (o = Value.slice B2 out2.length d2) := ⟨_, rfl⟩
                     rw [← HOO2.out] at hown2 ⊢
                     have hp2 := K2.out.pushed KA2.out hgr2 hown2
                     have H2 := Lib.hid hp2.1
                     have HA2 := Lib.hid hp2.2
                     have HLEN2 : Hid (out2.length ≤ 274877906946) := by show _ ≤ _; rw [HO2.out, List.length_append]; have := HLEN1.out; simp only [List.length_cons, List.length_nil]; omega
                     clear ho2 hown2 hgr2 hp2
                     obtain ⟨A2, c2, z20, z21, z22, y20, y21, y22, ht2, hr2⟩ := H2.out.read
                     have HT2 := Lib.hid ht2; clear ht2
                     have HR2 := Lib.hid hr2; clear hr2
                     simp only at z20 z21 z22 HT2 HR2)
        go_wp2_with fail
        refine (GD.out gone _).mono ?_
        rintro e v3 ⟨rfl, hb3⟩
        have K3 := Lib.hid (H2.out.below hb3)
        have KA3 := Lib.hid (HA2.out.trans (Aside.of_below hb3 H2.out.up))
        clear hb3
        go_wp2_with (at_builtin
                     refine wpList_push2 rfl (.tmp 38) (.tmp 44) rfl B o2 out2 ⟨3, gone, []⟩ rfl K3.out.row K3.out.up rfl (by have := HLEN2.out; omega) ?_
                     intro out3 B3 d3 w3 ho3 hown3 hgr3
                     have HO3 := Lib.hid ho3
                     obtain ⟨o3, HOO3⟩ : ∃ o, Hid (o = Value.slice B3 out3.length d3) := ⟨_, rfl⟩
                     rw [← HOO3.out] at hown3 ⊢
                     have hp3 := K3.out.pushed KA3.out hgr3 hown3
                     have H3 := Lib.hid hp3.1
                     have HA3 := Lib.hid hp3.2
                     have HLEN3 : Hid (out3.length ≤ 274877906947) := by show _ ≤ _; rw [HO3.out, List.length_append]; have := HLEN2.out; simp only [List.length_cons, List.length_nil]; omega
                     clear ho3 hown3 hgr3 hp3
                     obtain ⟨A3, c3, z30, z31, z32, y30, y31, y32, ht3, hr3⟩ := H3.out.read
                     have HT3 := Lib.hid ht3; clear ht3
                     have HR3 := Lib.hid hr3; clear hr3
                     simp only at z30 z31 z32 HT3 HR3
                     have SL : ∀ w, (Instr.slice 46 (.slice A3 tx.length c3) none (some (.int .i64 0)) none).run Try.prog w = .ok (.slice (addrHigh A3 c3) 0 c3) w := fun w => slice_high A3 tx.length c3 0 (Nat.zero_le _) w
                     have r1 := HR3.out.set 0 (.int .i64 0)
                     have x1 := r1.cell (i := 1) (by omega)
                     have f1 := r1.frozen 1
                     have r2 := r1.set 1 (.slice (addrHigh A3 c3) 0 c3)
                     have x2 := r2.cell (i := 2) (by omega)
                     have f2 := r2.frozen 2
                     replace x1 : World.cell? _ ⟨g, 1, none⟩ = some (.slice A3 tx.length c3) := x1
                     replace x2 : World.cell? _ ⟨g, 2, none⟩ = some (.int .i64 gone) := x2
                     clear r1 r2)
        go_ret
        have HE : NS.flush ⟨out0, keep, gone, tx⟩ = out3 := by
          show out0 ++ keepOf keep ++ textOf tx ++ goneOf gone = out3
          rw [QK.out, QT.out, QG.out]
          simp [HO3.out, HO2.out, HO1.out]
        refine ⟨o3, rfl, ?_, ((HA3.out.set 0 _).set 1 _).set 2 _⟩
        rw [HE]
        exact H3.out.begin HT3.out
      · skip
        have QK : Hid (keepOf keep = [⟨1, keep, []⟩]) := if_pos hk
        have QT : Hid (textOf tx = [⟨2, 0, tx⟩]) := if_neg ht
        have QG : Hid (goneOf gone = []) := if_neg hg
        go_enter Try.func33, Try.ntmps33
        go_wp2_with fail
        refine (GR.out keep _).mono ?_
        rintro e v1 ⟨rfl, hb1⟩
        have K1 := Lib.hid (H0.out.below hb1)
        have KA1 := Lib.hid (HA0.out.trans (Aside.of_below hb1 H0.out.up))
        clear hb1
        go_wp2_with (at_builtin
                     refine wpList_push2 rfl (.tmp 10) (.tmp 16) rfl B o0 out0 ⟨1, keep, []⟩ rfl K1.out.row K1.out.up rfl (by have := HLEN0.out; omega) ?_
                     intro out1 B1 d1 w1 ho1 hown1 hgr1
                     have HO1 := Lib.hid ho1
                     obtain ⟨o1, HOO1⟩ : ∃ o, Hid (o = Value.slice B1 out1.length d1) := ⟨_, rfl⟩
                     rw [← HOO1.out] at hown1 ⊢
                     have hp1 := K1.out.pushed KA1.out hgr1 hown1
                     have H1 := Lib.hid hp1.1
                     have HA1 := Lib.hid hp1.2
                     have HLEN1 : Hid (out1.length ≤ 274877906945) := by show _ ≤ _; rw [HO1.out, List.length_append]; have := HLEN0.out; simp only [List.length_cons, List.length_nil]; omega
                     clear ho1 hown1 hgr1 hp1
                     obtain ⟨A1, c1, z10, z11, z12, y10, y11, y12, ht1, hr1⟩ := H1.out.read
                     have HT1 := Lib.hid ht1; clear ht1
                     have HR1 := Lib.hid hr1; clear hr1
                     simp only at z10 z11 z12 HT1 HR1
                     have CV := (BytesAt.of_own HT1.out rfl).conv c1 9 Try.underlying9)
        go_wp2_with fail
        refine (GI.out tx _).mono ?_
        rintro e v2 ⟨rfl, hb2⟩
        have K2 := Lib.hid (H1.out.below hb2)
        have KA2 := Lib.hid (HA1.out.trans (Aside.of_below hb2 H1.out.up))
        clear hb2
        go_wp2_with (at_builtin
                     refine wpList_push2 rfl (.tmp 24) (.tmp 31) rfl B o1 out1 ⟨2, 0, tx⟩ rfl K2.out.row K2.out.up rfl (by have := HLEN1.out; omega) ?_
                     intro out2 B2 d2 w2 ho2 hown2 hgr2
                     have HO2 := Lib.hid ho2
                     obtain ⟨o2, HOO2⟩ : ∃ o, Hid (o = Value.slice B2 out2.length d2) := ⟨_, rfl⟩
                     rw [← HOO2.out] at hown2 ⊢
                     have hp2 := K2.out.pushed KA2.out hgr2 hown2
                     have H2 := Lib.hid hp2.1
                     have HA2 := Lib.hid hp2.2
                     have HLEN2 : Hid (out2.length ≤ 274877906946) := by show _ ≤ _; rw [HO2.out, List.length_append]; have := HLEN1.out; simp only [List.length_cons, List.length_nil]; omega
                     clear ho2 hown2 hgr2 hp2
                     obtain ⟨A2, c2, z20, z21, z22, y20, y21, y22, ht2, hr2⟩ := H2.out.read
                     have HT2 := Lib.hid ht2; clear ht2
                     have HR2 := Lib.hid hr2; clear hr2
                     simp only at z20 z21 z22 HT2 HR2
                     have SL : ∀ w, (Instr.slice 46 (.slice A2 tx.length c2) none (some (.int .i64 0)) none).run Try.prog w = .ok (.slice (addrHigh A2 c2) 0 c2) w := fun w => slice_high A2 tx.length c2 0 (Nat.zero_le _) w
                     have r1 := HR2.out.set 0 (.int .i64 0)
                     have x1 := r1.cell (i := 1) (by omega)
                     have f1 := r1.frozen 1
                     have r2 := r1.set 1 (.slice (addrHigh A2 c2) 0 c2)
                     have x2 := r2.cell (i := 2) (by omega)
                     have f2 := r2.frozen 2
                     replace x1 : World.cell? _ ⟨g, 1, none⟩ = some (.slice A2 tx.length c2) := x1
                     replace x2 : World.cell? _ ⟨g, 2, none⟩ = some (.int .i64 gone) := x2
                     clear r1 r2)
        go_ret
        have HE : NS.flush ⟨out0, keep, gone, tx⟩ = out2 := by
          show out0 ++ keepOf keep ++ textOf tx ++ goneOf gone = out2
          rw [QK.out, QT.out, QG.out]
          simp [HO2.out, HO1.out]
        refine ⟨o2, rfl, ?_, ((HA2.out.set 0 _).set 1 _).set 2 _⟩
        rw [HE]
        exact H2.out.begin HT2.out
  · skip
    by_cases ht : tx = []
    · subst ht
      simp only [List.length_nil] at z01
      by_cases hg : 0 < gone
      · skip
        have QK : Hid (keepOf keep = []) := if_neg hk
        have QT : Hid (textOf [] = []) := if_pos rfl
        have QG : Hid (goneOf gone = [⟨3, gone, []⟩]) := if_pos hg
        go_enter Try.func33, Try.ntmps33
        go_wp2_with fail
        refine (GD.out gone _).mono ?_
        rintro e v1 ⟨rfl, hb1⟩
        have K1 := Lib.hid (H0.out.below hb1)
        have KA1 := Lib.hid (HA0.out.trans (Aside.of_below hb1 H0.out.up))
        clear hb1
        go_wp2_with (at_builtin
                     refine wpList_push2 rfl (.tmp 38) (.tmp 44) rfl B o0 out0 ⟨3, gone, []⟩ rfl K1.out.row K1.out.up rfl (by have := HLEN0.out; omega) ?_
                     intro out1 B1 d1 w1 ho1 hown1 hgr1
                     have HO1 := Lib.hid ho1
                     obtain ⟨o1, HOO1⟩ : ∃ o, Hid (o = Value.slice B1 out1.length d1) := ⟨_, rfl⟩
                     rw [← HOO1.out] at hown1 ⊢
                     have hp1 := K1.out.pushed KA1.out hgr1 hown1
                     have H1 := Lib.hid hp1.1
                     have HA1 := Lib.hid hp1.2
                     have HLEN1 : Hid (out1.length ≤ 274877906945) := by show _ ≤ _; rw [HO1.out, List.length_append]; have := HLEN0.out; simp only [List.length_cons, List.length_nil]; omega
                     clear ho1 hown1 hgr1 hp1
                     obtain ⟨A1, c1, z10, z11, z12, y10, y11, y12, ht1, hr1⟩ := H1.out.read
                     have HT1 := Lib.hid ht1; clear ht1
                     have HR1 := Lib.hid hr1; clear hr1
                     simp only at z10 z11 z12 HT1 HR1
                     simp only [List.length_nil] at z11
                     have SL : ∀ w, (Instr.slice 46 (.slice A1 0 c1) none (some (.int .i64 0)) none).run Try.prog w = .ok (.slice (addrHigh A1 c1) 0 c1) w := fun w => slice_high A1 0 c1 0 (Nat.zero_le _) w
                     have r1 := HR1.out.set 0 (.int .i64 0)
                     have x1 := r1.cell (i := 1) (by omega)
                     have f1 := r1.frozen 1
                     have r2 := r1.set 1 (.slice (addrHigh A1 c1) 0 c1)
                     have x2 := r2.cell (i := 2) (by omega)
                     have f2 := r2.frozen 2
                     replace x1 : World.cell? _ ⟨g, 1, none⟩ = some (.slice A1 0 c1) := x1
                     replace x2 : World.cell? _ ⟨g, 2, none⟩ = some (.int .i64 gone) := x2
                     clear r1 r2)
        go_ret
        have HE : NS.flush ⟨out0, keep, gone, []⟩ = out1 := by
          show out0 ++ keepOf keep ++ textOf [] ++ goneOf gone = out1
          rw [QK.out, QT.out, QG.out]
          simp [HO1.out]
        refine ⟨o1, rfl, ?_, ((HA1.out.set 0 _).set 1 _).set 2 _⟩
        rw [HE]
        exact H1.out.begin HT1.out
      · skip
        have QK : Hid (keepOf keep = []) := if_neg hk
        have QT : Hid (textOf [] = []) := if_pos rfl
        have QG : Hid (goneOf gone = []) := if_neg hg
        go_enter Try.func33, Try.ntmps33
        have SL : ∀ w, (Instr.slice 46 (.slice A0 0 c0) none (some (.int .i64 0)) none).run Try.prog w = .ok (.slice (addrHigh A0 c0) 0 c0) w := fun w => slice_high A0 0 c0 0 (Nat.zero_le _) w
        have r1 := HR0.out.set 0 (.int .i64 0)
        have x1 := r1.cell (i := 1) (by omega)
        have f1 := r1.frozen 1
        have r2 := r1.set 1 (.slice (addrHigh A0 c0) 0 c0)
        have x2 := r2.cell (i := 2) (by omega)
        have f2 := r2.frozen 2
        replace x1 : World.cell? _ ⟨g, 1, none⟩ = some (.slice A0 0 c0) := x1
        replace x2 : World.cell? _ ⟨g, 2, none⟩ = some (.int .i64 gone) := x2
        clear r1 r2
        go_wp2
        go_ret
        have HE : NS.flush ⟨out0, keep, gone, []⟩ = out0 := by
          show out0 ++ keepOf keep ++ textOf [] ++ goneOf gone = out0
          rw [QK.out, QT.out, QG.out]
          simp
        refine ⟨o0, rfl, ?_, ((HA0.out.set 0 _).set 1 _).set 2 _⟩
        rw [HE]
        exact H0.out.begin HT0.out
    · have hl0 : 0 < tx.length := List.length_pos_iff.2 ht
      by_cases hg : 0 < gone
      · skip
        have QK : Hid (keepOf keep = []) := if_neg hk
        have QT : Hid (textOf tx = [⟨2, 0, tx⟩]) := if_neg ht
        have QG : Hid (goneOf gone = [⟨3, gone, []⟩]) := if_pos hg
        go_enter Try.func33, Try.ntmps33
        have CV := (BytesAt.of_own HT0.out rfl).conv c0 9 Try.underlying9
        go_wp2_with fail
        refine (GI.out tx _).mono ?_
        rintro e v1 ⟨rfl, hb1⟩
        have K1 := Lib.hid (H0.out.below hb1)
        have KA1 := Lib.hid (HA0.out.trans (Aside.of_below hb1 H0.out.up))
        clear hb1
        go_wp2_with (at_builtin
                     refine wpList_push2 rfl (.tmp 24) (.tmp 31) rfl B o0 out0 ⟨2, 0, tx⟩ rfl K1.out.row K1.out.up rfl (by have := HLEN0.out; omega) ?_
                     intro out1 B1 d1 w1 ho1 hown1 hgr1
                     have HO1 := Lib.hid ho1
                     obtain ⟨o1, HOO1⟩ : ∃ o, Hid (o = Value.slice B1 out1.length d1) := ⟨_, rfl⟩
                     rw [← HOO1.out] at hown1 ⊢
                     have hp1 := K1.out.pushed KA1.out hgr1 hown1
                     have H1 := Lib.hid hp1.1
                     have HA1 := Lib.hid hp1.2
                     have HLEN1 : Hid (out1.length ≤ 274877906945) := by show _ ≤ _; rw [HO1.out, List.length_append]; have := HLEN0.out; simp only [List.length_cons, List.length_nil]; omega
                     clear ho1 hown1 hgr1 hp1
                     obtain ⟨A1, c1, z10, z11, z12, y10, y11, y12, ht1, hr1⟩ := H1.out.read
                     have HT1 := Lib.hid ht1; clear ht1
                     have HR1 := Lib.hid hr1; clear hr1
                     simp only at z10 z11 z12 HT1 HR1)
        go_wp2_with fail
        refine (GD.out gone _).mono ?_
        rintro e v2 ⟨rfl, hb2⟩
        have K2 := Lib.hid (H1.out.below hb2)
        have KA2 := Lib.hid (HA1.out.trans (Aside.of_below hb2 H1.out.up))
        clear hb2
        go_wp2_with (at_builtin
                     refine wpList_push2 rfl (.tmp 38) (.tmp 44) rfl B o1 out1 ⟨3, gone, []⟩ rfl K2.out.row K2.out.up rfl (by have := HLEN1.out; omega) ?_
                     intro out2 B2 d2 w2 ho2 hown2 hgr2
                     have HO2 := Lib.hid ho2
                     obtain ⟨o2, HOO2⟩ : ∃ o, Hid (o = Value.slice B2 out2.length d2) := ⟨_, rfl⟩
                     rw [← HOO2.out] at hown2 ⊢
                     have hp2 := K2.out.pushed KA2.out hgr2 hown2
                     have H2 := Lib.hid hp2.1
                     have HA2 := Lib.hid hp2.2
                     have HLEN2 : Hid (out2.length ≤ 274877906946) := by show _ ≤ _; rw [HO2.out, List.length_append]; have := HLEN1.out; simp only [List.length_cons, List.length_nil]; omega
                     clear ho2 hown2 hgr2 hp2
                     obtain ⟨A2, c2, z20, z21, z22, y20, y21, y22, ht2, hr2⟩ := H2.out.read
                     have HT2 := Lib.hid ht2; clear ht2
                     have HR2 := Lib.hid hr2; clear hr2
                     simp only at z20 z21 z22 HT2 HR2
                     have SL : ∀ w, (Instr.slice 46 (.slice A2 tx.length c2) none (some (.int .i64 0)) none).run Try.prog w = .ok (.slice (addrHigh A2 c2) 0 c2) w := fun w => slice_high A2 tx.length c2 0 (Nat.zero_le _) w
                     have r1 := HR2.out.set 0 (.int .i64 0)
                     have x1 := r1.cell (i := 1) (by omega)
                     have f1 := r1.frozen 1
                     have r2 := r1.set 1 (.slice (addrHigh A2 c2) 0 c2)
                     have x2 := r2.cell (i := 2) (by omega)
                     have f2 := r2.frozen 2
                     replace x1 : World.cell? _ ⟨g, 1, none⟩ = some (.slice A2 tx.length c2) := x1
                     replace x2 : World.cell? _ ⟨g, 2, none⟩ = some (.int .i64 gone) := x2
                     clear r1 r2)
        go_ret
        have HE : NS.flush ⟨out0, keep, gone, tx⟩ = out2 := by
          show out0 ++ keepOf keep ++ textOf tx ++ goneOf gone = out2
          rw [QK.out, QT.out, QG.out]
          simp [HO2.out, HO1.out]
        refine ⟨o2, rfl, ?_, ((HA2.out.set 0 _).set 1 _).set 2 _⟩
        rw [HE]
        exact H2.out.begin HT2.out
      · skip
        have QK : Hid (keepOf keep = []) := if_neg hk
        have QT : Hid (textOf tx = [⟨2, 0, tx⟩]) := if_neg ht
        have QG : Hid (goneOf gone = []) := if_neg hg
        go_enter Try.func33, Try.ntmps33
        have CV := (BytesAt.of_own HT0.out rfl).conv c0 9 Try.underlying9
        go_wp2_with fail
        refine (GI.out tx _).mono ?_
        rintro e v1 ⟨rfl, hb1⟩
        have K1 := Lib.hid (H0.out.below hb1)
        have KA1 := Lib.hid (HA0.out.trans (Aside.of_below hb1 H0.out.up))
        clear hb1
        go_wp2_with (at_builtin
                     refine wpList_push2 rfl (.tmp 24) (.tmp 31) rfl B o0 out0 ⟨2, 0, tx⟩ rfl K1.out.row K1.out.up rfl (by have := HLEN0.out; omega) ?_
                     intro out1 B1 d1 w1 ho1 hown1 hgr1
                     have HO1 := Lib.hid ho1
                     obtain ⟨o1, HOO1⟩ : ∃ o, Hid (o = Value.slice B1 out1.length d1) := ⟨_, rfl⟩
                     rw [← HOO1.out] at hown1 ⊢
                     have hp1 := K1.out.pushed KA1.out hgr1 hown1
                     have H1 := Lib.hid hp1.1
                     have HA1 := Lib.hid hp1.2
                     have HLEN1 : Hid (out1.length ≤ 274877906945) := by show _ ≤ _; rw [HO1.out, List.length_append]; have := HLEN0.out; simp only [List.length_cons, List.length_nil]; omega
                     clear ho1 hown1 hgr1 hp1
                     obtain ⟨A1, c1, z10, z11, z12, y10, y11, y12, ht1, hr1⟩ := H1.out.read
                     have HT1 := Lib.hid ht1; clear ht1
                     have HR1 := Lib.hid hr1; clear hr1
                     simp only at z10 z11 z12 HT1 HR1
                     have SL : ∀ w, (Instr.slice 46 (.slice A1 tx.length c1) none (some (.int .i64 0)) none).run Try.prog w = .ok (.slice (addrHigh A1 c1) 0 c1) w := fun w => slice_high A1 tx.length c1 0 (Nat.zero_le _) w
                     have r1 := HR1.out.set 0 (.int .i64 0)
                     have x1 := r1.cell (i := 1) (by omega)
                     have f1 := r1.frozen 1
                     have r2 := r1.set 1 (.slice (addrHigh A1 c1) 0 c1)
                     have x2 := r2.cell (i := 2) (by omega)
                     have f2 := r2.frozen 2
                     replace x1 : World.cell? _ ⟨g, 1, none⟩ = some (.slice A1 tx.length c1) := x1
                     replace x2 : World.cell? _ ⟨g, 2, none⟩ = some (.int .i64 gone) := x2
                     clear r1 r2)
        go_ret
        have HE : NS.flush ⟨out0, keep, gone, tx⟩ = out1 := by
          show out0 ++ keepOf keep ++ textOf tx ++ goneOf gone = out1
          rw [QK.out, QT.out, QG.out]
          simp [HO1.out]
        refine ⟨o1, rfl, ?_, ((HA1.out.set 0 _).set 1 _).set 2 _⟩
        rw [HE]
        exact H1.out.begin HT1.out
end Go.Proofs.Ytgdojhccdicapaa
