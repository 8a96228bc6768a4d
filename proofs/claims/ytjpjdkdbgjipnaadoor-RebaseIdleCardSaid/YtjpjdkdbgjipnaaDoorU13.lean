/- The landed txn's named: an act with those fields alone that its Kind names. No condition. (Merged of 3 texts.) -/
import Derived.Test.YtjpjdkdbgjipnaaDoorU5
import Derived.Test.YtjpjdkdbgjipnaaDoorU0
import Derived.Test.YtjpjdkdbgjipnaaDoorU37
namespace Go.Proofs.YtjpjdkdbgjipnaaDoor
open Go.RowKit Go.Deep Go.Lib
theorem NowAt.pushed {g B : Nat} {out out' : List CompV} {keep gone : Int} {tx : List Nat} {o o' : Value} {X : Obj} {W w w' : World} (h : NowAt g B ⟨out, keep, gone, tx⟩ o w) (ha : Aside g B W w) (hg : (w.alloc X).grownBy w' o.ownBlock)
  (ho : w'.ownsRow B 51 3 o' out'.length (out'.flatMap yy5)) : NowAt g B ⟨out', keep, gone, tx⟩ o' w' ∧ Aside g B W w' := by
 have h1 : Below w.heap.size w (w.alloc X) := (Below.refl _ _).alloc (Nat.le_refl _) _
 have h2 := h.below h1
 exact ⟨h2.push hg ho, (ha.trans (.of_below h1 h.up)).grown hg h2.up (fun k e => (h2.row.lt k e).1)⟩
def EndEnd (g B : Nat) (s : NS) (w : World) (e : Ending) (w' : World) : Prop := ∃ o, e = .returned o ∧ NowAt g B ⟨s.flush, 0, 0, []⟩ o w' ∧ Aside g B w w'
set_option maxHeartbeats 8000000 in
set_option maxRecDepth 100000 in
theorem yy479 (g B : Nat) (s : NS) (o : Value) (hout : s.out.length ≤ 274877906944) (htl : s.text.length ≤ 1099511627776) (w : World) (h : NowAt g B s o w) :
  Calls Tryd.prog 96 #[.pointer (some ⟨g, 0, none⟩), o] w (EndEnd g B s w) := by
 have GR := xh (fun n w => yy261 n w)
 have GI := xh (fun t w => yy416 t w)
 have GD := xh (fun n w => yy415 n w)
 obtain ⟨out0, keep, gone, tx⟩ := s
 simp only at hout htl
 have HLEN0 : Hid (out0.length ≤ 274877906944) := hout
 have H0 := xh h; clear h hout
 have HA0 := xh (Aside.refl g B w)
 obtain ⟨o0, HO0⟩ : ∃ x, Hid (o = x) := ⟨_, rfl⟩
 rw [HO0.out] at H0 ⊢
 obtain ⟨w0, HW0⟩ : ∃ x, Hid (w = x) := ⟨_, rfl⟩
 rw [HW0.out] at H0 HA0 ⊢
 obtain ⟨A0, c0, z00, z01, z02, y00, y01, y02, ht0, hr0⟩ := H0.out.read
 have HT0 := xh ht0; clear ht0
 have HR0 := xh hr0; clear hr0
 simp only at z00 z01 z02 HT0 HR0
 by_cases hk : 0 < keep
 ·skip
  by_cases ht : tx = []
  ·subst ht
   simp only [List.length_nil] at z01
   by_cases hg : 0 < gone
   ·skip
    have QK : Hid (keepOf keep = [⟨1, keep, []⟩]) := if_pos hk
    have QT : Hid (textOf [] = []) := if_pos rfl
    have QG : Hid (goneOf gone = [⟨3, gone, []⟩]) := if_pos hg
    go_enter Tryd.func96, Tryd.ntmps96
    go_wp2_with fail
    refine (GR.out keep _).mono ?_
    rintro e v1 ⟨rfl, hb1⟩
    have K1 := xh (H0.out.below hb1)
    have KA1 := xh (HA0.out.trans (Aside.of_below hb1 H0.out.up))
    clear hb1
    go_wp2_with (at_builtin
                 refine yy37 rfl (.tmp 10) (.tmp 16) rfl B o0 out0 ⟨1, keep, []⟩ rfl K1.out.row K1.out.up rfl (by have := HLEN0.out; omega) ?_
                 intro out1 B1 d1 w1 ho1 hown1 hgr1
                 have HO1 := xh ho1
                 obtain ⟨o1, HOO1⟩ : ∃ o, Hid (o = Value.slice B1 out1.length d1) := ⟨_, rfl⟩
                 rw [← HOO1.out] at hown1 ⊢
                 have hp1 := K1.out.pushed KA1.out hgr1 hown1
                 have H1 := xh hp1.1
                 have HA1 := xh hp1.2
                 have HLEN1 : Hid (out1.length ≤ 274877906945) := by show _ ≤ _; rw [HO1.out, List.length_append]; have := HLEN0.out; simp only [List.length_cons, List.length_nil]; omega
                 clear ho1 hown1 hgr1 hp1
                 obtain ⟨A1, c1, z10, z11, z12, y10, y11, y12, ht1, hr1⟩ := H1.out.read
                 have HT1 := xh ht1; clear ht1
                 have HR1 := xh hr1; clear hr1
                 simp only at z10 z11 z12 HT1 HR1
                 simp only [List.length_nil] at z11)
    go_wp2_with fail
    refine (GD.out gone _).mono ?_
    rintro e v2 ⟨rfl, hb2⟩
    have K2 := xh (H1.out.below hb2)
    have KA2 := xh (HA1.out.trans (Aside.of_below hb2 H1.out.up))
    clear hb2
    go_wp2_with (at_builtin
                 refine yy37 rfl (.tmp 38) (.tmp 44) rfl B o1 out1 ⟨3, gone, []⟩ rfl K2.out.row K2.out.up rfl (by have := HLEN1.out; omega) ?_
                 intro out2 B2 d2 w2 ho2 hown2 hgr2
                 have HO2 := xh ho2
                 obtain ⟨o2, HOO2⟩ : ∃ o, Hid (o = Value.slice B2 out2.length d2) := ⟨_, rfl⟩
                 rw [← HOO2.out] at hown2 ⊢
                 have hp2 := K2.out.pushed KA2.out hgr2 hown2
                 have H2 := xh hp2.1
                 have HA2 := xh hp2.2
                 have HLEN2 : Hid (out2.length ≤ 274877906946) := by show _ ≤ _; rw [HO2.out, List.length_append]; have := HLEN1.out; simp only [List.length_cons, List.length_nil]; omega
                 clear ho2 hown2 hgr2 hp2
                 obtain ⟨A2, c2, z20, z21, z22, y20, y21, y22, ht2, hr2⟩ := H2.out.read
                 have HT2 := xh ht2; clear ht2
                 have HR2 := xh hr2; clear hr2
                 simp only at z20 z21 z22 HT2 HR2
                 simp only [List.length_nil] at z21
                 have SL : ∀ w, (Instr.slice 88 (.slice A2 0 c2) none (some (.int .i64 0)) none).run Tryd.prog w = .ok (.slice (addrHigh A2 c2) 0 c2) w := fun w => slice_high A2 0 c2 0 (Nat.zero_le _) w
                 have r1 := HR2.out.set 0 (.int .i64 0)
                 have x1 := r1.cell (i := 1) (by omega)
                 have f1 := r1.frozen 1
                 have r2 := r1.set 1 (.slice (addrHigh A2 c2) 0 c2)
                 have x2 := r2.cell (i := 2) (by omega)
                 have f2 := r2.frozen 2
                 replace x1 : World.cell? _ ⟨g, 1, none⟩ = some (.slice A2 0 c2) := x1
                 replace x2 : World.cell? _ ⟨g, 2, none⟩ = some (.int .i64 gone) := x2
                 clear r1 r2)
    go_ret
    have HE : NS.flush ⟨out0, keep, gone, []⟩ = out2 := by
     show out0 ++ keepOf keep ++ textOf [] ++ goneOf gone = out2
     rw [QK.out, QT.out, QG.out]
     simp [HO2.out, HO1.out]
    refine ⟨o2, rfl, ?_, ((HA2.out.set 0 _).set 1 _).set 2 _⟩
    rw [HE]
    exact H2.out.begin HT2.out
   ·skip
    have QK : Hid (keepOf keep = [⟨1, keep, []⟩]) := if_pos hk
    have QT : Hid (textOf [] = []) := if_pos rfl
    have QG : Hid (goneOf gone = []) := if_neg hg
    go_enter Tryd.func96, Tryd.ntmps96
    go_wp2_with fail
    refine (GR.out keep _).mono ?_
    rintro e v1 ⟨rfl, hb1⟩
    have K1 := xh (H0.out.below hb1)
    have KA1 := xh (HA0.out.trans (Aside.of_below hb1 H0.out.up))
    clear hb1
    go_wp2_with (at_builtin
                 refine yy37 rfl (.tmp 10) (.tmp 16) rfl B o0 out0 ⟨1, keep, []⟩ rfl K1.out.row K1.out.up rfl (by have := HLEN0.out; omega) ?_
                 intro out1 B1 d1 w1 ho1 hown1 hgr1
                 have HO1 := xh ho1
                 obtain ⟨o1, HOO1⟩ : ∃ o, Hid (o = Value.slice B1 out1.length d1) := ⟨_, rfl⟩
                 rw [← HOO1.out] at hown1 ⊢
                 have hp1 := K1.out.pushed KA1.out hgr1 hown1
                 have H1 := xh hp1.1
                 have HA1 := xh hp1.2
                 have HLEN1 : Hid (out1.length ≤ 274877906945) := by show _ ≤ _; rw [HO1.out, List.length_append]; have := HLEN0.out; simp only [List.length_cons, List.length_nil]; omega
                 clear ho1 hown1 hgr1 hp1
                 obtain ⟨A1, c1, z10, z11, z12, y10, y11, y12, ht1, hr1⟩ := H1.out.read
                 have HT1 := xh ht1; clear ht1
                 have HR1 := xh hr1; clear hr1
                 simp only at z10 z11 z12 HT1 HR1
                 simp only [List.length_nil] at z11
                 have SL : ∀ w, (Instr.slice 88 (.slice A1 0 c1) none (some (.int .i64 0)) none).run Tryd.prog w = .ok (.slice (addrHigh A1 c1) 0 c1) w := fun w => slice_high A1 0 c1 0 (Nat.zero_le _) w
                 have r1 := HR1.out.set 0 (.int .i64 0)
                 have x1 := r1.cell (i := 1) (by omega)
                 have f1 := r1.frozen 1
                 have r2 := r1.set 1 (.slice (addrHigh A1 c1) 0 c1)
                 have x2 := r2.cell (i := 2) (by omega)
                 have f2 := r2.frozen 2
                 replace x1 : World.cell? _ ⟨g, 1, none⟩ = some (.slice A1 0 c1) := x1
                 replace x2 : World.cell? _ ⟨g, 2, none⟩ = some (.int .i64 gone) := x2
                 clear r1 r2)
    go_ret
    have HE : NS.flush ⟨out0, keep, gone, []⟩ = out1 := by
     show out0 ++ keepOf keep ++ textOf [] ++ goneOf gone = out1
     rw [QK.out, QT.out, QG.out]
     simp [HO1.out]
    refine ⟨o1, rfl, ?_, ((HA1.out.set 0 _).set 1 _).set 2 _⟩
    rw [HE]
    exact H1.out.begin HT1.out
  ·have hl0 : 0 < tx.length := List.length_pos_iff.2 ht
   by_cases hg : 0 < gone
   ·skip
    have QK : Hid (keepOf keep = [⟨1, keep, []⟩]) := if_pos hk
    have QT : Hid (textOf tx = [⟨2, 0, tx⟩]) := if_neg ht
    have QG : Hid (goneOf gone = [⟨3, gone, []⟩]) := if_pos hg
    go_enter Tryd.func96, Tryd.ntmps96
    go_wp2_with fail
    refine (GR.out keep _).mono ?_
    rintro e v1 ⟨rfl, hb1⟩
    have K1 := xh (H0.out.below hb1)
    have KA1 := xh (HA0.out.trans (Aside.of_below hb1 H0.out.up))
    clear hb1
    go_wp2_with (at_builtin
                 refine yy37 rfl (.tmp 10) (.tmp 16) rfl B o0 out0 ⟨1, keep, []⟩ rfl K1.out.row K1.out.up rfl (by have := HLEN0.out; omega) ?_
                 intro out1 B1 d1 w1 ho1 hown1 hgr1
                 have HO1 := xh ho1
                 obtain ⟨o1, HOO1⟩ : ∃ o, Hid (o = Value.slice B1 out1.length d1) := ⟨_, rfl⟩
                 rw [← HOO1.out] at hown1 ⊢
                 have hp1 := K1.out.pushed KA1.out hgr1 hown1
                 have H1 := xh hp1.1
                 have HA1 := xh hp1.2
                 have HLEN1 : Hid (out1.length ≤ 274877906945) := by show _ ≤ _; rw [HO1.out, List.length_append]; have := HLEN0.out; simp only [List.length_cons, List.length_nil]; omega
                 clear ho1 hown1 hgr1 hp1
                 obtain ⟨A1, c1, z10, z11, z12, y10, y11, y12, ht1, hr1⟩ := H1.out.read
                 have HT1 := xh ht1; clear ht1
                 have HR1 := xh hr1; clear hr1
                 simp only at z10 z11 z12 HT1 HR1
                 have CV := (BytesAt.of_own HT1.out rfl).conv c1 9 Tryd.underlying9)
    go_wp2_with fail
    refine (GI.out tx _).mono ?_
    rintro e v2 ⟨rfl, hb2⟩
    have K2 := xh (H1.out.below hb2)
    have KA2 := xh (HA1.out.trans (Aside.of_below hb2 H1.out.up))
    clear hb2
    go_wp2_with (at_builtin
                 refine yy37 rfl (.tmp 24) (.tmp 31) rfl B o1 out1 ⟨2, 0, tx⟩ rfl K2.out.row K2.out.up rfl (by have := HLEN1.out; omega) ?_
                 intro out2 B2 d2 w2 ho2 hown2 hgr2
                 have HO2 := xh ho2
                 obtain ⟨o2, HOO2⟩ : ∃ o, Hid (o = Value.slice B2 out2.length d2) := ⟨_, rfl⟩
                 rw [← HOO2.out] at hown2 ⊢
                 have hp2 := K2.out.pushed KA2.out hgr2 hown2
                 have H2 := xh hp2.1
                 have HA2 := xh hp2.2
                 have HLEN2 : Hid (out2.length ≤ 274877906946) := by show _ ≤ _; rw [HO2.out, List.length_append]; have := HLEN1.out; simp only [List.length_cons, List.length_nil]; omega
                 clear ho2 hown2 hgr2 hp2
                 obtain ⟨A2, c2, z20, z21, z22, y20, y21, y22, ht2, hr2⟩ := H2.out.read
                 have HT2 := xh ht2; clear ht2
                 have HR2 := xh hr2; clear hr2
                 simp only at z20 z21 z22 HT2 HR2)
    go_wp2_with fail
    refine (GD.out gone _).mono ?_
    rintro e v3 ⟨rfl, hb3⟩
    have K3 := xh (H2.out.below hb3)
    have KA3 := xh (HA2.out.trans (Aside.of_below hb3 H2.out.up))
    clear hb3
    go_wp2_with (at_builtin
                 refine yy37 rfl (.tmp 38) (.tmp 44) rfl B o2 out2 ⟨3, gone, []⟩ rfl K3.out.row K3.out.up rfl (by have := HLEN2.out; omega) ?_
                 intro out3 B3 d3 w3 ho3 hown3 hgr3
                 have HO3 := xh ho3
                 obtain ⟨o3, HOO3⟩ : ∃ o, Hid (o = Value.slice B3 out3.length d3) := ⟨_, rfl⟩
                 rw [← HOO3.out] at hown3 ⊢
                 have hp3 := K3.out.pushed KA3.out hgr3 hown3
                 have H3 := xh hp3.1
                 have HA3 := xh hp3.2
                 have HLEN3 : Hid (out3.length ≤ 274877906947) := by show _ ≤ _; rw [HO3.out, List.length_append]; have := HLEN2.out; simp only [List.length_cons, List.length_nil]; omega
                 clear ho3 hown3 hgr3 hp3
                 obtain ⟨A3, c3, z30, z31, z32, y30, y31, y32, ht3, hr3⟩ := H3.out.read
                 have HT3 := xh ht3; clear ht3
                 have HR3 := xh hr3; clear hr3
                 simp only at z30 z31 z32 HT3 HR3
                 have SL : ∀ w, (Instr.slice 88 (.slice A3 tx.length c3) none (some (.int .i64 0)) none).run Tryd.prog w = .ok (.slice (addrHigh A3 c3) 0 c3) w := fun w => slice_high A3 tx.length c3 0 (Nat.zero_le _) w
                 have r1 := HR3.out.set 0 (.int .i64 0)
                 have x1 := r1.cell (i := 1) (by omega)
                 have f1 := r1.frozen 1
                 have r2 := r1.set 1 (.slice (addrHigh A3 c3) 0 c3)
                 have x2 := r2.cell (i := 2) (by omega)
                 have f2 := r2.frozen 2
                 replace x1 : World.cell? _ ⟨g, 1, none⟩ = some (.slice A3 tx.length c3) := x1
                 replace x2 : World.cell? _ ⟨g, 2, none⟩ = some (.int .i64 gone) := x2
                 clear r1 r2)
    go_ret
    have HE : NS.flush ⟨out0, keep, gone, tx⟩ = out3 := by
     show out0 ++ keepOf keep ++ textOf tx ++ goneOf gone = out3
     rw [QK.out, QT.out, QG.out]
     simp [HO3.out, HO2.out, HO1.out]
    refine ⟨o3, rfl, ?_, ((HA3.out.set 0 _).set 1 _).set 2 _⟩
    rw [HE]
    exact H3.out.begin HT3.out
   ·skip
    have QK : Hid (keepOf keep = [⟨1, keep, []⟩]) := if_pos hk
    have QT : Hid (textOf tx = [⟨2, 0, tx⟩]) := if_neg ht
    have QG : Hid (goneOf gone = []) := if_neg hg
    go_enter Tryd.func96, Tryd.ntmps96
    go_wp2_with fail
    refine (GR.out keep _).mono ?_
    rintro e v1 ⟨rfl, hb1⟩
    have K1 := xh (H0.out.below hb1)
    have KA1 := xh (HA0.out.trans (Aside.of_below hb1 H0.out.up))
    clear hb1
    go_wp2_with (at_builtin
                 refine yy37 rfl (.tmp 10) (.tmp 16) rfl B o0 out0 ⟨1, keep, []⟩ rfl K1.out.row K1.out.up rfl (by have := HLEN0.out; omega) ?_
                 intro out1 B1 d1 w1 ho1 hown1 hgr1
                 have HO1 := xh ho1
                 obtain ⟨o1, HOO1⟩ : ∃ o, Hid (o = Value.slice B1 out1.length d1) := ⟨_, rfl⟩
                 rw [← HOO1.out] at hown1 ⊢
                 have hp1 := K1.out.pushed KA1.out hgr1 hown1
                 have H1 := xh hp1.1
                 have HA1 := xh hp1.2
                 have HLEN1 : Hid (out1.length ≤ 274877906945) := by show _ ≤ _; rw [HO1.out, List.length_append]; have := HLEN0.out; simp only [List.length_cons, List.length_nil]; omega
                 clear ho1 hown1 hgr1 hp1
                 obtain ⟨A1, c1, z10, z11, z12, y10, y11, y12, ht1, hr1⟩ := H1.out.read
                 have HT1 := xh ht1; clear ht1
                 have HR1 := xh hr1; clear hr1
                 simp only at z10 z11 z12 HT1 HR1
                 have CV := (BytesAt.of_own HT1.out rfl).conv c1 9 Tryd.underlying9)
    go_wp2_with fail
    refine (GI.out tx _).mono ?_
    rintro e v2 ⟨rfl, hb2⟩
    have K2 := xh (H1.out.below hb2)
    have KA2 := xh (HA1.out.trans (Aside.of_below hb2 H1.out.up))
    clear hb2
    go_wp2_with (at_builtin
                 refine yy37 rfl (.tmp 24) (.tmp 31) rfl B o1 out1 ⟨2, 0, tx⟩ rfl K2.out.row K2.out.up rfl (by have := HLEN1.out; omega) ?_
                 intro out2 B2 d2 w2 ho2 hown2 hgr2
                 have HO2 := xh ho2
                 obtain ⟨o2, HOO2⟩ : ∃ o, Hid (o = Value.slice B2 out2.length d2) := ⟨_, rfl⟩
                 rw [← HOO2.out] at hown2 ⊢
                 have hp2 := K2.out.pushed KA2.out hgr2 hown2
                 have H2 := xh hp2.1
                 have HA2 := xh hp2.2
                 have HLEN2 : Hid (out2.length ≤ 274877906946) := by show _ ≤ _; rw [HO2.out, List.length_append]; have := HLEN1.out; simp only [List.length_cons, List.length_nil]; omega
                 clear ho2 hown2 hgr2 hp2
                 obtain ⟨A2, c2, z20, z21, z22, y20, y21, y22, ht2, hr2⟩ := H2.out.read
                 have HT2 := xh ht2; clear ht2
                 have HR2 := xh hr2; clear hr2
                 simp only at z20 z21 z22 HT2 HR2
                 have SL : ∀ w, (Instr.slice 88 (.slice A2 tx.length c2) none (some (.int .i64 0)) none).run Tryd.prog w = .ok (.slice (addrHigh A2 c2) 0 c2) w := fun w => slice_high A2 tx.length c2 0 (Nat.zero_le _) w
                 have r1 := HR2.out.set 0 (.int .i64 0)
                 have x1 := r1.cell (i := 1) (by omega)
                 have f1 := r1.frozen 1
                 have r2 := r1.set 1 (.slice (addrHigh A2 c2) 0 c2)
                 have x2 := r2.cell (i := 2) (by omega)
                 have f2 := r2.frozen 2
                 replace x1 : World.cell? _ ⟨g, 1, none⟩ = some (.slice A2 tx.length c2) := x1
                 replace x2 : World.cell? _ ⟨g, 2, none⟩ = some (.int .i64 gone) := x2
                 clear r1 r2)
    go_ret
    have HE : NS.flush ⟨out0, keep, gone, tx⟩ = out2 := by
     show out0 ++ keepOf keep ++ textOf tx ++ goneOf gone = out2
     rw [QK.out, QT.out, QG.out]
     simp [HO2.out, HO1.out]
    refine ⟨o2, rfl, ?_, ((HA2.out.set 0 _).set 1 _).set 2 _⟩
    rw [HE]
    exact H2.out.begin HT2.out
 ·skip
  by_cases ht : tx = []
  ·subst ht
   simp only [List.length_nil] at z01
   by_cases hg : 0 < gone
   ·skip
    have QK : Hid (keepOf keep = []) := if_neg hk
    have QT : Hid (textOf [] = []) := if_pos rfl
    have QG : Hid (goneOf gone = [⟨3, gone, []⟩]) := if_pos hg
    go_enter Tryd.func96, Tryd.ntmps96
    go_wp2_with fail
    refine (GD.out gone _).mono ?_
    rintro e v1 ⟨rfl, hb1⟩
    have K1 := xh (H0.out.below hb1)
    have KA1 := xh (HA0.out.trans (Aside.of_below hb1 H0.out.up))
    clear hb1
    go_wp2_with (at_builtin
                 refine yy37 rfl (.tmp 38) (.tmp 44) rfl B o0 out0 ⟨3, gone, []⟩ rfl K1.out.row K1.out.up rfl (by have := HLEN0.out; omega) ?_
                 intro out1 B1 d1 w1 ho1 hown1 hgr1
                 have HO1 := xh ho1
                 obtain ⟨o1, HOO1⟩ : ∃ o, Hid (o = Value.slice B1 out1.length d1) := ⟨_, rfl⟩
                 rw [← HOO1.out] at hown1 ⊢
                 have hp1 := K1.out.pushed KA1.out hgr1 hown1
                 have H1 := xh hp1.1
                 have HA1 := xh hp1.2
                 have HLEN1 : Hid (out1.length ≤ 274877906945) := by show _ ≤ _; rw [HO1.out, List.length_append]; have := HLEN0.out; simp only [List.length_cons, List.length_nil]; omega
                 clear ho1 hown1 hgr1 hp1
                 obtain ⟨A1, c1, z10, z11, z12, y10, y11, y12, ht1, hr1⟩ := H1.out.read
                 have HT1 := xh ht1; clear ht1
                 have HR1 := xh hr1; clear hr1
                 simp only at z10 z11 z12 HT1 HR1
                 simp only [List.length_nil] at z11
                 have SL : ∀ w, (Instr.slice 88 (.slice A1 0 c1) none (some (.int .i64 0)) none).run Tryd.prog w = .ok (.slice (addrHigh A1 c1) 0 c1) w := fun w => slice_high A1 0 c1 0 (Nat.zero_le _) w
                 have r1 := HR1.out.set 0 (.int .i64 0)
                 have x1 := r1.cell (i := 1) (by omega)
                 have f1 := r1.frozen 1
                 have r2 := r1.set 1 (.slice (addrHigh A1 c1) 0 c1)
                 have x2 := r2.cell (i := 2) (by omega)
                 have f2 := r2.frozen 2
                 replace x1 : World.cell? _ ⟨g, 1, none⟩ = some (.slice A1 0 c1) := x1
                 replace x2 : World.cell? _ ⟨g, 2, none⟩ = some (.int .i64 gone) := x2
                 clear r1 r2)
    go_ret
    have HE : NS.flush ⟨out0, keep, gone, []⟩ = out1 := by
     show out0 ++ keepOf keep ++ textOf [] ++ goneOf gone = out1
     rw [QK.out, QT.out, QG.out]
     simp [HO1.out]
    refine ⟨o1, rfl, ?_, ((HA1.out.set 0 _).set 1 _).set 2 _⟩
    rw [HE]
    exact H1.out.begin HT1.out
   ·skip
    have QK : Hid (keepOf keep = []) := if_neg hk
    have QT : Hid (textOf [] = []) := if_pos rfl
    have QG : Hid (goneOf gone = []) := if_neg hg
    go_enter Tryd.func96, Tryd.ntmps96
    have SL : ∀ w, (Instr.slice 88 (.slice A0 0 c0) none (some (.int .i64 0)) none).run Tryd.prog w = .ok (.slice (addrHigh A0 c0) 0 c0) w := fun w => slice_high A0 0 c0 0 (Nat.zero_le _) w
    have r1 := HR0.out.set 0 (.int .i64 0)
    have x1 := r1.cell (i := 1) (by omega)
    have f1 := r1.frozen 1
    have r2 := r1.set 1 (.slice (addrHigh A0 c0) 0 c0)
    have x2 := r2.cell (i := 2) (by omega)
    have f2 := r2.frozen 2
    replace x1 : World.cell? _ ⟨g, 1, none⟩ = some (.slice A0 0 c0) := x1
    replace x2 : World.cell? _ ⟨g, 2, none⟩ = some (.int .i64 gone) := x2
    clear r1 r2
    go_wp2
    go_ret
    have HE : NS.flush ⟨out0, keep, gone, []⟩ = out0 := by
     show out0 ++ keepOf keep ++ textOf [] ++ goneOf gone = out0
     rw [QK.out, QT.out, QG.out]
     simp
    refine ⟨o0, rfl, ?_, ((HA0.out.set 0 _).set 1 _).set 2 _⟩
    rw [HE]
    exact H0.out.begin HT0.out
  ·have hl0 : 0 < tx.length := List.length_pos_iff.2 ht
   by_cases hg : 0 < gone
   ·skip
    have QK : Hid (keepOf keep = []) := if_neg hk
    have QT : Hid (textOf tx = [⟨2, 0, tx⟩]) := if_neg ht
    have QG : Hid (goneOf gone = [⟨3, gone, []⟩]) := if_pos hg
    go_enter Tryd.func96, Tryd.ntmps96
    have CV := (BytesAt.of_own HT0.out rfl).conv c0 9 Tryd.underlying9
    go_wp2_with fail
    refine (GI.out tx _).mono ?_
    rintro e v1 ⟨rfl, hb1⟩
    have K1 := xh (H0.out.below hb1)
    have KA1 := xh (HA0.out.trans (Aside.of_below hb1 H0.out.up))
    clear hb1
    go_wp2_with (at_builtin
                 refine yy37 rfl (.tmp 24) (.tmp 31) rfl B o0 out0 ⟨2, 0, tx⟩ rfl K1.out.row K1.out.up rfl (by have := HLEN0.out; omega) ?_
                 intro out1 B1 d1 w1 ho1 hown1 hgr1
                 have HO1 := xh ho1
                 obtain ⟨o1, HOO1⟩ : ∃ o, Hid (o = Value.slice B1 out1.length d1) := ⟨_, rfl⟩
                 rw [← HOO1.out] at hown1 ⊢
                 have hp1 := K1.out.pushed KA1.out hgr1 hown1
                 have H1 := xh hp1.1
                 have HA1 := xh hp1.2
                 have HLEN1 : Hid (out1.length ≤ 274877906945) := by show _ ≤ _; rw [HO1.out, List.length_append]; have := HLEN0.out; simp only [List.length_cons, List.length_nil]; omega
                 clear ho1 hown1 hgr1 hp1
                 obtain ⟨A1, c1, z10, z11, z12, y10, y11, y12, ht1, hr1⟩ := H1.out.read
                 have HT1 := xh ht1; clear ht1
                 have HR1 := xh hr1; clear hr1
                 simp only at z10 z11 z12 HT1 HR1)
    go_wp2_with fail
    refine (GD.out gone _).mono ?_
    rintro e v2 ⟨rfl, hb2⟩
    have K2 := xh (H1.out.below hb2)
    have KA2 := xh (HA1.out.trans (Aside.of_below hb2 H1.out.up))
    clear hb2
    go_wp2_with (at_builtin
                 refine yy37 rfl (.tmp 38) (.tmp 44) rfl B o1 out1 ⟨3, gone, []⟩ rfl K2.out.row K2.out.up rfl (by have := HLEN1.out; omega) ?_
                 intro out2 B2 d2 w2 ho2 hown2 hgr2
                 have HO2 := xh ho2
                 obtain ⟨o2, HOO2⟩ : ∃ o, Hid (o = Value.slice B2 out2.length d2) := ⟨_, rfl⟩
                 rw [← HOO2.out] at hown2 ⊢
                 have hp2 := K2.out.pushed KA2.out hgr2 hown2
                 have H2 := xh hp2.1
                 have HA2 := xh hp2.2
                 have HLEN2 : Hid (out2.length ≤ 274877906946) := by show _ ≤ _; rw [HO2.out, List.length_append]; have := HLEN1.out; simp only [List.length_cons, List.length_nil]; omega
                 clear ho2 hown2 hgr2 hp2
                 obtain ⟨A2, c2, z20, z21, z22, y20, y21, y22, ht2, hr2⟩ := H2.out.read
                 have HT2 := xh ht2; clear ht2
                 have HR2 := xh hr2; clear hr2
                 simp only at z20 z21 z22 HT2 HR2
                 have SL : ∀ w, (Instr.slice 88 (.slice A2 tx.length c2) none (some (.int .i64 0)) none).run Tryd.prog w = .ok (.slice (addrHigh A2 c2) 0 c2) w := fun w => slice_high A2 tx.length c2 0 (Nat.zero_le _) w
                 have r1 := HR2.out.set 0 (.int .i64 0)
                 have x1 := r1.cell (i := 1) (by omega)
                 have f1 := r1.frozen 1
                 have r2 := r1.set 1 (.slice (addrHigh A2 c2) 0 c2)
                 have x2 := r2.cell (i := 2) (by omega)
                 have f2 := r2.frozen 2
                 replace x1 : World.cell? _ ⟨g, 1, none⟩ = some (.slice A2 tx.length c2) := x1
                 replace x2 : World.cell? _ ⟨g, 2, none⟩ = some (.int .i64 gone) := x2
                 clear r1 r2)
    go_ret
    have HE : NS.flush ⟨out0, keep, gone, tx⟩ = out2 := by
     show out0 ++ keepOf keep ++ textOf tx ++ goneOf gone = out2
     rw [QK.out, QT.out, QG.out]
     simp [HO2.out, HO1.out]
    refine ⟨o2, rfl, ?_, ((HA2.out.set 0 _).set 1 _).set 2 _⟩
    rw [HE]
    exact H2.out.begin HT2.out
   ·skip
    have QK : Hid (keepOf keep = []) := if_neg hk
    have QT : Hid (textOf tx = [⟨2, 0, tx⟩]) := if_neg ht
    have QG : Hid (goneOf gone = []) := if_neg hg
    go_enter Tryd.func96, Tryd.ntmps96
    have CV := (BytesAt.of_own HT0.out rfl).conv c0 9 Tryd.underlying9
    go_wp2_with fail
    refine (GI.out tx _).mono ?_
    rintro e v1 ⟨rfl, hb1⟩
    have K1 := xh (H0.out.below hb1)
    have KA1 := xh (HA0.out.trans (Aside.of_below hb1 H0.out.up))
    clear hb1
    go_wp2_with (at_builtin
                 refine yy37 rfl (.tmp 24) (.tmp 31) rfl B o0 out0 ⟨2, 0, tx⟩ rfl K1.out.row K1.out.up rfl (by have := HLEN0.out; omega) ?_
                 intro out1 B1 d1 w1 ho1 hown1 hgr1
                 have HO1 := xh ho1
                 obtain ⟨o1, HOO1⟩ : ∃ o, Hid (o = Value.slice B1 out1.length d1) := ⟨_, rfl⟩
                 rw [← HOO1.out] at hown1 ⊢
                 have hp1 := K1.out.pushed KA1.out hgr1 hown1
                 have H1 := xh hp1.1
                 have HA1 := xh hp1.2
                 have HLEN1 : Hid (out1.length ≤ 274877906945) := by show _ ≤ _; rw [HO1.out, List.length_append]; have := HLEN0.out; simp only [List.length_cons, List.length_nil]; omega
                 clear ho1 hown1 hgr1 hp1
                 obtain ⟨A1, c1, z10, z11, z12, y10, y11, y12, ht1, hr1⟩ := H1.out.read
                 have HT1 := xh ht1; clear ht1
                 have HR1 := xh hr1; clear hr1
                 simp only at z10 z11 z12 HT1 HR1
                 have SL : ∀ w, (Instr.slice 88 (.slice A1 tx.length c1) none (some (.int .i64 0)) none).run Tryd.prog w = .ok (.slice (addrHigh A1 c1) 0 c1) w := fun w => slice_high A1 tx.length c1 0 (Nat.zero_le _) w
                 have r1 := HR1.out.set 0 (.int .i64 0)
                 have x1 := r1.cell (i := 1) (by omega)
                 have f1 := r1.frozen 1
                 have r2 := r1.set 1 (.slice (addrHigh A1 c1) 0 c1)
                 have x2 := r2.cell (i := 2) (by omega)
                 have f2 := r2.frozen 2
                 replace x1 : World.cell? _ ⟨g, 1, none⟩ = some (.slice A1 tx.length c1) := x1
                 replace x2 : World.cell? _ ⟨g, 2, none⟩ = some (.int .i64 gone) := x2
                 clear r1 r2)
    go_ret
    have HE : NS.flush ⟨out0, keep, gone, tx⟩ = out1 := by
     show out0 ++ keepOf keep ++ textOf tx ++ goneOf gone = out1
     rw [QK.out, QT.out, QG.out]
     simp [HO1.out]
    refine ⟨o1, rfl, ?_, ((HA1.out.set 0 _).set 1 _).set 2 _⟩
    rw [HE]
    exact H1.out.begin HT1.out
end Go.Proofs.YtjpjdkdbgjipnaaDoor
namespace Go.Proofs.YtjpjdkdbgjipnaaDoor
open Go.RowKit
theorem yy9 {K : Act → World → Prop} {Q : Exit → Act → World → Prop} {l : Nat} {a : Act} {w : World} : Exit.then K Q (.goto l) a w = Q (.goto l) a w := rfl
theorem yy12 {id : Nat} {Q : Exit → Act → World → Prop} {l : Nat} {a : Act} {w : World} : Exit.inBlock id Q (.goto l) a w = Q (.goto l) a w := rfl
set_option maxHeartbeats 4000000 in
set_option maxRecDepth 100000 in
theorem yy309 (k : Nat) (hk : ∀ (args : Array Value) (w : World), (callFunc k args).run Tryd.prog w = .ok (.enter k args) w) (cap : Array Value) (l : List Nat) (hl : l.length ≤ 1099511627776) (hb : ∀ x ∈ l, x < 256) (Inv : List Nat → World → Prop)
  (hshow : ∀ vs v w, Inv vs w → May v → (E (vs ++ [v])).length ≤ l.length → Calls Tryd.prog k (#[.int .i64 ((v : Nat) : Int), .int .i64 (((E (vs ++ [v])).length : Nat) : Int)] ++ cap) w fun e w' => e = .returned (.tuple #[]) ∧ Inv (vs ++ [v]) w')
  (w : World) (h0 : Inv [] w) :
  Calls Tryd.prog 107 #[.string (bstr l), .func (.func k) #[] cap] w fun e w' =>
   (∃ vs, V l vs ∧ e = .returned (.bool true) ∧ Inv vs w') ∨ ((¬ ∃ vs, V l vs) ∧ e = .returned (.bool false) ∧ ∃ vs, Inv vs w') := by
 have HS := xh hshow; clear hshow
 have HB := xh hb; clear hb
 have HL := xh hl; clear hl
 have H0 := xh h0; clear h0
 have HD := xh (bstr_size l)
 go_enter Tryd.func107, Tryd.ntmps107
 go_wp2
 refine yy373 (WJ l (.func (.func k) #[] cap) Inv) (Wμ l.length) ?hJ rfl rfl rfl rfl ?p2 ?p1 ?p3 ?p0 ?first
 case hJ =>
  intro j a w h
  match j, h with
  | 0, _ => omega
  | 1, _ => omega
  | 2, _ => omega
  | 3, _ => omega
  | (n + 4), h => exact h.elim
 case p2 =>
  rintro a w ⟨at_, p, le, lf, hf, hn, vs, hv⟩
  rw [Wμ2]
  have HN := xh hn; clear hn
  obtain ⟨f, rfl⟩ := hf.out
  clear hf
  go_wp2
  rw [yy418]
  go_ret
  exact .inr ⟨HN.out, rfl, vs, hv⟩
 case p1 =>
  rintro a w ⟨vs, r, t, at_, p, le, lf, hf, hm, hlr, hr, hat, hd, hst, hp, hle, hv⟩
  rw [Wμ1 hf]
  obtain ⟨m, HM⟩ : ∃ m, Hid (m = 4 * (l.length - at_) + 2) := ⟨_, rfl⟩
  rw [← HM.out]
  obtain ⟨f, rfl⟩ := hf.out
  clear hf
  have HV := xh hv; clear hv
  have HMM := xh hm; clear hm
  have HLR := xh hlr; clear hlr
  have HR := xh hr; clear hr
  have HT := xh hd; clear hd
  have HST := xh hst; clear hst
  rw [yy55] at HST
  by_cases h1 : p < le
  ·have HN : Hid (¬ ∃ ws, V l ws) := by
    show ¬ ∃ ws, V l ws
    rw [HLR.out]
    exact yy81 HMM.out HR.out (by rw [HST.out, if_pos (.inl h1)])
   go_wp2
   go_step3
   rw [yy9, yy42, Wμ2]
   exact ⟨⟨at_, _, _, lf, Fr.mk ⟨rfl, rfl, rfl, rfl, rfl, rfl, rfl⟩, HN.out, vs, HV.out⟩, by have := HM.out; omega⟩
  ·by_cases h2 : May p
   ·have HS2 : Hid (st r = some (p, t)) := by show st r = some (p, t); rw [HST.out, if_neg (fun hh => hh.elim h1 (fun h => h h2))]
    have HAT : Hid (at_ = (E (vs ++ [p])).length) := by
     show at_ = (E (vs ++ [p])).length
     have h3 := congrArg List.length HLR.out
     rw [(yy180 HS2.out).2, ← List.append_assoc, ← E_snoc, List.length_append] at h3
     omega
    go_wp2_with (go_at_call 110; refine (yy585 h2 _).mono ?_; rintro e w' ⟨rfl, rfl⟩)
    rw [HAT.out]
    refine (HS.out vs p _ HV.out h2 (by rw [← HAT.out]; omega)).mono ?_
    rintro e w' ⟨rfl, hv'⟩
    have HV' := xh hv'; clear hv'
    go_wp2
    go_step3
    rw [yy9, yy42, Wμ0 (s := .string (bstr l)) (sh := .func (.func k) #[] cap) (at_ := (E (vs ++ [p])).length) (Fr.mk ⟨rfl, rfl, rfl, rfl, rfl, rfl, rfl⟩)]
    refine ⟨⟨vs ++ [p], t, _, _, lf, Fr.mk ⟨rfl, rfl, rfl, rfl, rfl, rfl, rfl⟩, ?_, ?_, HV'.out⟩, ?_⟩
    ·intro v hv
     rcases List.mem_append.1 hv with hv | hv
     ·exact HMM.out v hv
     ·rw [List.mem_singleton.1 hv]; exact h2
    ·rw [E_snoc, List.append_assoc, ← (yy180 HS2.out).2, ← HLR.out]
    ·rw [← HAT.out, HM.out]; omega
   ·have HN : Hid (¬ ∃ ws, V l ws) := by
     show ¬ ∃ ws, V l ws
     rw [HLR.out]
     exact yy81 HMM.out HR.out (by rw [HST.out, if_pos (.inr h2)])
    go_wp2_with (go_at_call 110; refine (yy586 h2 _).mono ?_; rintro e w' ⟨rfl, rfl⟩)
    go_step3
    rw [yy9, yy42, Wμ2]
    exact ⟨⟨at_, _, _, lf, Fr.mk ⟨rfl, rfl, rfl, rfl, rfl, rfl, rfl⟩, HN.out, vs, HV.out⟩, by have := HM.out; omega⟩
 case p3 =>
  rintro P1 a w ⟨vs, r, t, at_, p, le, n, hf, hm, hlr, hr, hat, hd, hst, hp, hle, hv⟩
  have P1' := xh P1; clear P1
  rw [Wμ3 hf]
  obtain ⟨m, HM⟩ : ∃ m, Hid (m = 4 * (l.length - at_) + 3) := ⟨_, rfl⟩
  rw [← HM.out]
  obtain ⟨f, rfl⟩ := hf.out
  clear hf
  have HV := xh hv; clear hv
  have HMM := xh hm; clear hm
  have HLR := xh hlr; clear hlr
  have HR := xh hr; clear hr
  have HST := xh hst; clear hst
  have HP := xh hp; clear hp
  have hsz := HD.out
  have hl := HL.out
  obtain ⟨n, rfl⟩ : ∃ k, n = k + 1 := ⟨n - 1, by have := HP.out; omega⟩
  cases t with
  | nil =>
   have hat' : at_ = l.length := by simpa using hat
   have HN : Hid (¬ ∃ ws, V l ws) := by
    show ¬ ∃ ws, V l ws
    rw [HLR.out]
    exact yy81 HMM.out HR.out (by rw [HST.out, yy308])
   clear hd hat
   subst hat'
   go_wp2
   go_step3
   rw [yy9, yy42, Wμ2]
   exact ⟨⟨l.length, _, _, _, Fr.mk ⟨rfl, rfl, rfl, rfl, rfl, rfl, rfl⟩, HN.out, vs, HV.out⟩, by have := HM.out; omega⟩
  | cons d t =>
   have HT := xh hd
   have hix := fun w => byte_at HB.out hd w
   have hd256 : d < 256 := HB.out d (List.mem_of_mem_drop (by rw [hd]; exact List.mem_cons_self ..))
   clear hd
   have hat' : at_ + t.length + 1 = l.length := by simpa [Nat.add_assoc] using hat
   clear hat
   rw [yy71] at HST
   by_cases h2 : d / 64 = 2
   ·have HST2 : Hid (st r = fur n (p * 64 + d % 64) le t) := by show st r = _; rw [HST.out, if_pos h2]
    have hne : at_ < l.length := by omega
    have e1 : ((at_ : Int) == (l.length : Int)) = false := xn (by omega)
    have e2 : (((d : Int) / 64) != 2) = false := by simp; omega
    obtain ⟨q, HQ⟩ : ∃ q, Hid (q = p * 64 + d % 64) := ⟨_, rfl⟩
    have hp2 : p < 32768 := by have := HP.out; omega
    have eor := bor6 p d hp2
    rw [← HQ.out] at eor
    have hdr : Hid (l.drop (at_ + 1) = t) := by show l.drop (at_ + 1) = t; rw [← List.drop_drop, HT.out]; rfl
    have HST3 : Hid (st r = fur n q le t) := by show _ = _; rw [HST2.out, HQ.out]
    cases n with
    | zero =>
     have hq : Hid (q ≤ 2097152) := by show q ≤ 2097152; rw [HQ.out]; omega
     go_wp2
     go_step3
     rename_i K hK
     refine hK _ _ (yy149 ?_ (P1'.out _ _ ⟨vs, r, t, at_ + 1, q, le, _, Fr.mk ⟨rfl, rfl, rfl, rfl, rfl, rfl, rfl⟩, HMM.out, HLR.out, HR.out, by omega, hdr.out, HST3.out, hq.out, hle, HV.out⟩))
     rw [Wμ1 (s := .string (bstr l)) (sh := .func (.func k) #[] cap) (at_ := at_ + 1) (Fr.mk ⟨rfl, rfl, rfl, rfl, rfl, rfl, rfl⟩), HM.out]
     omega
    | succ n =>
     have hn2 : n < 2 := by have := HP.out; omega
     have hq : Hid (n + 1 = 1 ∧ q < 32768 ∨ n + 1 = 2 ∧ q < 512 ∨ n + 1 = 3 ∧ q < 8) := by show _ ∨ _; rw [HQ.out]; have := HP.out; omega
     go_wp2
     go_step3
     rw [yy9, yy42, Wμ3 (s := .string (bstr l)) (sh := .func (.func k) #[] cap) (at_ := at_ + 1) (Fr.mk ⟨rfl, rfl, rfl, rfl, rfl, rfl, rfl⟩)]
     exact ⟨⟨vs, r, t, at_ + 1, q, le, n + 1, Fr.mk ⟨rfl, rfl, rfl, rfl, rfl, rfl, rfl⟩, HMM.out, HLR.out, HR.out, by omega, hdr.out, HST3.out, hq.out, hle, HV.out⟩, by rw [HM.out]; omega⟩
   ·have HN : Hid (¬ ∃ ws, V l ws) := by
     show ¬ ∃ ws, V l ws
     rw [HLR.out]
     exact yy81 HMM.out HR.out (by rw [HST.out, if_neg h2])
    have hne : at_ < l.length := by omega
    have e1 : ((at_ : Int) == (l.length : Int)) = false := xn (by omega)
    have e2 : (((d : Int) / 64) != 2) = true := by simp; omega
    go_wp2
    go_step3
    rw [yy9, yy42, Wμ2]
    exact ⟨⟨at_, _, _, _, Fr.mk ⟨rfl, rfl, rfl, rfl, rfl, rfl, rfl⟩, HN.out, vs, HV.out⟩, by have := HM.out; omega⟩
 case p0 =>
  rintro P3 a w ⟨vs, r, p, le, lf, hf, hm, hlr, hv⟩
  have P3' := xh P3; clear P3
  rw [Wμ0 hf]
  obtain ⟨m, HM⟩ : ∃ m, Hid (m = 4 * (l.length - (E vs).length) + 1) := ⟨_, rfl⟩
  rw [← HM.out]
  obtain ⟨f, rfl⟩ := hf.out
  clear hf
  have HV := xh hv; clear hv
  have HMM := xh hm; clear hm
  have HLR := xh hlr; clear hlr
  have hsz := HD.out
  have hl := HL.out
  have hlen : (E vs).length + r.length = l.length := by rw [← List.length_append, ← HLR.out]
  cases r with
  | nil =>
   have HVV : Hid (V l vs) := ⟨HMM.out, by rw [HLR.out]; simp⟩
   have e0 : (E vs).length = l.length := by simpa using hlen
   have e1 : (((E vs).length : Int) == (l.length : Int)) = true := by rw [e0]; exact beq_self_eq_true _
   go_wp2
   all_goals rw [yy418]
   go_ret
   exact .inl ⟨vs, HVV.out, rfl, HV.out⟩
  | cons c t =>
   have hlen' : (E vs).length + t.length + 1 = l.length := by simpa [Nat.add_assoc] using hlen
   clear hlen
   have hd0 : l.drop (E vs).length = c :: t := by rw [HLR.out, List.drop_left' rfl]
   have HDR : Hid (l.drop ((E vs).length + 1) = t) := by show l.drop ((E vs).length + 1) = t; rw [← List.drop_drop, hd0]; rfl
   have hix := fun w => byte_at HB.out hd0 w
   have hc256 : c < 256 := HB.out c (by rw [HLR.out]; simp)
   clear hd0
   have e1 : (((E vs).length : Int) == (l.length : Int)) = false := xn (by omega)
   have hne : (E vs).length < l.length := by omega
   by_cases h1 : c < 128
   ·have HS2 : Hid (st (c :: t) = fur 0 c 0 t) := by show _ = _; rw [yy58, if_pos h1]
    go_wp2
    go_step3
    rw [yy12, yy9, yy42, Wμ1 (s := .string (bstr l)) (sh := .func (.func k) #[] cap) (at_ := (E vs).length + 1) (Fr.mk ⟨rfl, rfl, rfl, rfl, rfl, rfl, rfl⟩)]
    exact ⟨⟨vs, c :: t, t, (E vs).length + 1, c, 0, lf, Fr.mk ⟨rfl, rfl, rfl, rfl, rfl, rfl, rfl⟩, HMM.out, HLR.out, by simp, by omega, HDR.out, HS2.out, by omega, by omega, HV.out⟩, by rw [HM.out]; omega⟩
   by_cases h2 : c < 192
   ·have HN : Hid (¬ ∃ ws, V l ws) := by
     show ¬ ∃ ws, V l ws
     rw [HLR.out]
     exact yy81 HMM.out (by simp) (by rw [yy58, if_neg h1, if_pos h2])
    go_wp2
    go_step3
    rw [yy12, yy9, yy42, Wμ2]
    exact ⟨⟨(E vs).length + 1, _, _, _, Fr.mk ⟨rfl, rfl, rfl, rfl, rfl, rfl, rfl⟩, HN.out, vs, HV.out⟩, by have := HM.out; omega⟩
   by_cases h3 : c < 224
   ·have HS2 : Hid (st (c :: t) = fur 1 (c % 32) 128 t) := by show _ = _; rw [yy58, if_neg (by omega), if_neg (by omega), if_pos (by omega)]
    have em : Hid (((c : Int) % 32) = ((c % 32 : Nat) : Int)) := by show ((c : Int) % 32) = ((c % 32 : Nat) : Int); omega
    have hc1 : ¬ c < 128 := by omega
    have hc2 : ¬ c < 192 := by omega
    go_wp2
    go_step3
    rename_i K hK
    rw [em.out]
    refine hK _ _ (yy149 ?_ (P3'.out _ _ ⟨vs, c :: t, t, (E vs).length + 1, c % 32, 128, 1, Fr.mk ⟨rfl, rfl, rfl, rfl, rfl, rfl, rfl⟩, HMM.out, HLR.out, by simp, by omega, HDR.out, HS2.out, by omega, by omega, HV.out⟩))
    rw [Wμ3 (s := .string (bstr l)) (sh := .func (.func k) #[] cap) (at_ := (E vs).length + 1) (Fr.mk ⟨rfl, rfl, rfl, rfl, rfl, rfl, rfl⟩), HM.out]
    omega
   by_cases h4 : c < 240
   ·have HS2 : Hid (st (c :: t) = fur 2 (c % 16) 2048 t) := by show _ = _; rw [yy58, if_neg (by omega), if_neg (by omega), if_neg (by omega), if_pos (by omega)]
    have em : Hid (((c : Int) % 16) = ((c % 16 : Nat) : Int)) := by show ((c : Int) % 16) = ((c % 16 : Nat) : Int); omega
    have hc1 : ¬ c < 128 := by omega
    have hc2 : ¬ c < 192 := by omega
    have hc3 : ¬ c < 224 := by omega
    go_wp2
    go_step3
    rename_i K hK
    rw [em.out]
    refine hK _ _ (yy149 ?_ (P3'.out _ _ ⟨vs, c :: t, t, (E vs).length + 1, c % 16, 2048, 2, Fr.mk ⟨rfl, rfl, rfl, rfl, rfl, rfl, rfl⟩, HMM.out, HLR.out, by simp, by omega, HDR.out, HS2.out, by omega, by omega, HV.out⟩))
    rw [Wμ3 (s := .string (bstr l)) (sh := .func (.func k) #[] cap) (at_ := (E vs).length + 1) (Fr.mk ⟨rfl, rfl, rfl, rfl, rfl, rfl, rfl⟩), HM.out]
    omega
   by_cases h5 : c < 248
   ·have HS2 : Hid (st (c :: t) = fur 3 (c % 8) 65536 t) := by show _ = _; rw [yy58, if_neg (by omega), if_neg (by omega), if_neg (by omega), if_neg (by omega), if_pos (by omega)]
    have em : Hid (((c : Int) % 8) = ((c % 8 : Nat) : Int)) := by show ((c : Int) % 8) = ((c % 8 : Nat) : Int); omega
    have hc1 : ¬ c < 128 := by omega
    have hc2 : ¬ c < 192 := by omega
    have hc3 : ¬ c < 224 := by omega
    have hc4 : ¬ c < 240 := by omega
    go_wp2
    go_step3
    rename_i K hK
    rw [em.out]
    refine hK _ _ (yy149 ?_ (P3'.out _ _ ⟨vs, c :: t, t, (E vs).length + 1, c % 8, 65536, 3, Fr.mk ⟨rfl, rfl, rfl, rfl, rfl, rfl, rfl⟩, HMM.out, HLR.out, by simp, by omega, HDR.out, HS2.out, by omega, by omega, HV.out⟩))
    rw [Wμ3 (s := .string (bstr l)) (sh := .func (.func k) #[] cap) (at_ := (E vs).length + 1) (Fr.mk ⟨rfl, rfl, rfl, rfl, rfl, rfl, rfl⟩), HM.out]
    omega
   ·have HN : Hid (¬ ∃ ws, V l ws) := by
     show ¬ ∃ ws, V l ws
     rw [HLR.out]
     exact yy81 HMM.out (by simp) (by rw [yy58, if_neg (by omega), if_neg (by omega), if_neg (by omega), if_neg (by omega), if_neg (by omega)])
    have hc1 : ¬ c < 128 := by omega
    have hc2 : ¬ c < 192 := by omega
    have hc3 : ¬ c < 224 := by omega
    have hc4 : ¬ c < 240 := by omega
    go_wp2
    go_step3
    rw [yy12, yy9, yy42, Wμ2]
    exact ⟨⟨(E vs).length + 1, _, _, _, Fr.mk ⟨rfl, rfl, rfl, rfl, rfl, rfl, rfl⟩, HN.out, vs, HV.out⟩, by have := HM.out; omega⟩
 case first =>
  intro P0
  have P0' := xh P0; clear P0
  refine ⟨4 * l.length + 1, ?_⟩
  go_wp2
  go_step3
  rename_i K hK
  refine hK _ _ (yy149 ?_ (P0'.out _ _ ⟨[], l, _, _, _, Fr.mk ⟨rfl, rfl, rfl, by rw [E_nil]; rfl, rfl, rfl, rfl⟩, by simp, by rw [E_nil]; rfl, H0.out⟩))
  rw [Wμ0 (s := .string (bstr l)) (sh := .func (.func k) #[] cap) (at_ := 0) (Fr.mk ⟨rfl, rfl, rfl, rfl, rfl, rfl, rfl⟩)]
  omega
end Go.Proofs.YtjpjdkdbgjipnaaDoor
namespace Go.Proofs.YtjpjdkdbgjipnaaDoor
open Go.RowKit Go.Deep
set_option maxHeartbeats 1000000 in
set_option maxRecDepth 100000 in
theorem yy715 (a : ActV) (w : World) :
  Calls Tryd.prog 73 #[.agg (yy1 a).toArray] w fun e w' => e = .returned (.agg (yy1 (aPlain a)).toArray) ∧ Below w.heap.size w w' := by
 obtain ⟨k, i, p, n, d, A, c, o⟩ := a
 by_cases h1 : k = 1
 ·rw [yy612 h1]
  subst h1
  unfold yy1
  go_enter Tryd.func73, Tryd.ntmps73
  go_wp2
  refine bodyPost_ret (results_cell_row rfl _ _ (w.heap.size + 1) 46 #[.int .i64 1, .int .i64 i, .int .i64 p, .string (bstr n), .bool d, .slice none 0 0] (0, 0) _ rfl (yy161 _ _ _) Tryd.underlying46 rfl (by kernel_rfl)) rfl ?_
  exact ⟨rfl, ((Below.refl _ _).alloc (Nat.le_refl _) _).alloc (by simp) _⟩
 by_cases h2 : k = 2
 ·rw [yy436 h2]
  subst h2
  unfold yy1
  go_enter Tryd.func73, Tryd.ntmps73
  go_wp2
  refine bodyPost_ret (results_cell_row rfl _ _ (w.heap.size + 1) 46 #[.int .i64 2, .int .i64 i, .int .i64 0, .string (bstr []), .bool false, .slice none 0 0] (0, 0) _ rfl (yy161 _ _ _) Tryd.underlying46 rfl (by kernel_rfl)) rfl ?_
  exact ⟨rfl, ((Below.refl _ _).alloc (Nat.le_refl _) _).alloc (by simp) _⟩
 by_cases h3 : k = 3
 ·rw [yy613 h3]
  subst h3
  unfold yy1
  go_enter Tryd.func73, Tryd.ntmps73
  go_wp2
  refine bodyPost_ret (results_cell_row rfl _ _ (w.heap.size + 1) 46 #[.int .i64 3, .int .i64 i, .int .i64 p, .string (bstr n), .bool false, .slice none 0 0] (0, 0) _ rfl (yy161 _ _ _) Tryd.underlying46 rfl (by kernel_rfl)) rfl ?_
  exact ⟨rfl, ((Below.refl _ _).alloc (Nat.le_refl _) _).alloc (by simp) _⟩
 by_cases h4 : k = 4
 ·rw [yy437 h4]
  subst h4
  unfold yy1
  go_enter Tryd.func73, Tryd.ntmps73
  go_wp2
  refine bodyPost_ret (results_cell_row rfl _ _ (w.heap.size + 1) 46 #[.int .i64 4, .int .i64 i, .int .i64 0, .string (bstr []), .bool false, .slice A o.length c] (0, 0) _ rfl (yy161 _ _ _) Tryd.underlying46 rfl (by kernel_rfl)) rfl ?_
  exact ⟨rfl, ((Below.refl _ _).alloc (Nat.le_refl _) _).alloc (by simp) _⟩
 ·rw [yy614 ⟨h1, h2, h3, h4⟩]
  have g1 : (k == 1) = false := xn h1
  have g2 : (k == 2) = false := xn h2
  have g3 : (k == 3) = false := xn h3
  have g4 : (k == 4) = false := xn h4
  clear h1 h2 h3 h4
  unfold yy1
  go_enter Tryd.func73, Tryd.ntmps73
  go_wp2
  refine bodyPost_ret (results_cell_row rfl _ _ (w.heap.size + 1) 46 #[.int .i64 k, .int .i64 0, .int .i64 0, .string (bstr []), .bool false, .slice none 0 0] (0, 0) _ rfl (yy161 _ _ _) Tryd.underlying46 rfl (by kernel_rfl)) rfl ?_
  exact ⟨rfl, ((Below.refl _ _).alloc (Nat.le_refl _) _).alloc (by simp) _⟩
end Go.Proofs.YtjpjdkdbgjipnaaDoor
