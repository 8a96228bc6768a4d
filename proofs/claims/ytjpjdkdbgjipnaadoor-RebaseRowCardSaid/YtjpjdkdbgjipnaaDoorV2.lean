/- The landed Normal: the normal form of an edit. Condition: no more than 2^30 parts, no more than 2^40 bytes of texts. (Merged of 3 texts.) -/
import Derived.Test.YtjpjdkdbgjipnaaDoorV22
import Derived.Test.YtjpjdkdbgjipnaaDoorV3
import Derived.Test.YtjpjdkdbgjipnaaDoorV45
import Derived.Test.YtjpjdkdbgjipnaaDoorV1
import Derived.WalkMore
namespace Go.Proofs.YtjpjdkdbgjipnaaDoor
open Go.RowKit Go.Deep Go.Lib
theorem NowAt.pushed {g B : Nat} {out out' : List CompV} {keep gone : Int} {tx : List Nat} {o o' : Value} {X : Obj} {W w w' : World} (h : NowAt g B ⟨out, keep, gone, tx⟩ o w) (ha : Aside g B W w) (hg : (w.alloc X).grownBy w' o.ownBlock)
  (ho : w'.ownsRow B 51 3 o' out'.length (out'.flatMap yy2)) : NowAt g B ⟨out', keep, gone, tx⟩ o' w' ∧ Aside g B W w' := by
 have h1 : Below w.heap.size w (w.alloc X) := (Below.refl _ _).alloc (Nat.le_refl _) _
 have h2 := h.below h1
 exact ⟨h2.push hg ho, (ha.trans (.of_below h1 h.up)).grown hg h2.up (fun k e => (h2.row.lt k e).1)⟩
def EndEnd (g B : Nat) (s : NS) (w : World) (e : Ending) (w' : World) : Prop := ∃ o, e = .returned o ∧ NowAt g B ⟨s.flush, 0, 0, []⟩ o w' ∧ Aside g B w w'
set_option maxHeartbeats 8000000 in
set_option maxRecDepth 100000 in
theorem yy371 (g B : Nat) (s : NS) (o : Value) (hout : s.out.length ≤ 274877906944) (htl : s.text.length ≤ 1099511627776) (w : World) (h : NowAt g B s o w) :
  Calls Tryd.prog 96 #[.pointer (some ⟨g, 0, none⟩), o] w (EndEnd g B s w) := by
 have GR := xh (fun n w => yy190 n w)
 have GI := xh (fun t w => yy313 t w)
 have GD := xh (fun n w => yy312 n w)
 obtain ⟨out0, keep, gone, tx⟩ := s
 simp only at hout htl
 have HLEN0 : Hid (out0.length ≤ 274877906944) := hout
 have H0 := xh h; clear h hout
 have HA0 := xh (Aside.refl g B w)
 obtain ⟨o0, HO0⟩ : ∃ x, Hid (o = x) := ⟨_, rfl⟩
 rw [HO0.out] at H0 ⊢
 obtain ⟨w0, HW0⟩ : ∃ x, Hid (w = x) := ⟨_, rfl⟩
 rw [HW0.out] at H0 HA0 ⊢
 obtain ⟨A0, c0, z00, z01, z02, y00, y01, y02, ht0, hr0⟩ := H0.out.read
 have HT0 := xh ht0; clear ht0
 have HR0 := xh hr0; clear hr0
 simp only at z00 z01 z02 HT0 HR0
 by_cases hk : 0 < keep
 ·skip
  by_cases ht : tx = []
  ·subst ht
   simp only [List.length_nil] at z01
   by_cases hg : 0 < gone
   ·skip
    have QK : Hid (keepOf keep = [⟨1, keep, []⟩]) := if_pos hk
    have QT : Hid (textOf [] = []) := if_pos rfl
    have QG : Hid (goneOf gone = [⟨3, gone, []⟩]) := if_pos hg
    go_enter Tryd.func96, Tryd.ntmps96
    go_wp2_with fail
    refine (GR.out keep _).mono ?_
    rintro e v1 ⟨rfl, hb1⟩
    have K1 := xh (H0.out.below hb1)
    have KA1 := xh (HA0.out.trans (Aside.of_below hb1 H0.out.up))
    clear hb1
    go_wp2_with (at_builtin
                 refine yy30 rfl (.tmp 10) (.tmp 16) rfl B o0 out0 ⟨1, keep, []⟩ rfl K1.out.row K1.out.up rfl (by have := HLEN0.out; omega) ?_
                 intro out1 B1 d1 w1 ho1 hown1 hgr1
                 have HO1 := xh ho1
                 obtain ⟨o1, HOO1⟩ : ∃ o, Hid (o = Value.slice B1 out1.length d1) := ⟨_, rfl⟩
                 rw [← HOO1.out] at hown1 ⊢
                 have hp1 := K1.out.pushed KA1.out hgr1 hown1
                 have H1 := xh hp1.1
                 have HA1 := xh hp1.2
                 have HLEN1 : Hid (out1.length ≤ 274877906945) := by show _ ≤ _; rw [HO1.out, List.length_append]; have := HLEN0.out; simp only [List.length_cons, List.length_nil]; omega
                 clear ho1 hown1 hgr1 hp1
                 obtain ⟨A1, c1, z10, z11, z12, y10, y11, y12, ht1, hr1⟩ := H1.out.read
                 have HT1 := xh ht1; clear ht1
                 have HR1 := xh hr1; clear hr1
                 simp only at z10 z11 z12 HT1 HR1
                 simp only [List.length_nil] at z11)
    go_wp2_with fail
    refine (GD.out gone _).mono ?_
    rintro e v2 ⟨rfl, hb2⟩
    have K2 := xh (H1.out.below hb2)
    have KA2 := xh (HA1.out.trans (Aside.of_below hb2 H1.out.up))
    clear hb2
    go_wp2_with (at_builtin
                 refine yy30 rfl (.tmp 38) (.tmp 44) rfl B o1 out1 ⟨3, gone, []⟩ rfl K2.out.row K2.out.up rfl (by have := HLEN1.out; omega) ?_
                 intro out2 B2 d2 w2 ho2 hown2 hgr2
                 have HO2 := xh ho2
                 obtain ⟨o2, HOO2⟩ : ∃ o, Hid (o = Value.slice B2 out2.length d2) := ⟨_, rfl⟩
                 rw [← HOO2.out] at hown2 ⊢
                 have hp2 := K2.out.pushed KA2.out hgr2 hown2
                 have H2 := xh hp2.1
                 have HA2 := xh hp2.2
                 have HLEN2 : Hid (out2.length ≤ 274877906946) := by show _ ≤ _; rw [HO2.out, List.length_append]; have := HLEN1.out; simp only [List.length_cons, List.length_nil]; omega
                 clear ho2 hown2 hgr2 hp2
                 obtain ⟨A2, c2, z20, z21, z22, y20, y21, y22, ht2, hr2⟩ := H2.out.read
                 have HT2 := xh ht2; clear ht2
                 have HR2 := xh hr2; clear hr2
                 simp only at z20 z21 z22 HT2 HR2
                 simp only [List.length_nil] at z21
                 have SL : ∀ w, (Instr.slice 88 (.slice A2 0 c2) none (some (.int .i64 0)) none).run Tryd.prog w = .ok (.slice (addrHigh A2 c2) 0 c2) w := fun w => slice_high A2 0 c2 0 (Nat.zero_le _) w
                 have r1 := HR2.out.set 0 (.int .i64 0)
                 have x1 := r1.cell (i := 1) (by omega)
                 have f1 := r1.frozen 1
                 have r2 := r1.set 1 (.slice (addrHigh A2 c2) 0 c2)
                 have x2 := r2.cell (i := 2) (by omega)
                 have f2 := r2.frozen 2
                 replace x1 : World.cell? _ ⟨g, 1, none⟩ = some (.slice A2 0 c2) := x1
                 replace x2 : World.cell? _ ⟨g, 2, none⟩ = some (.int .i64 gone) := x2
                 clear r1 r2)
    go_ret
    have HE : NS.flush ⟨out0, keep, gone, []⟩ = out2 := by
     show out0 ++ keepOf keep ++ textOf [] ++ goneOf gone = out2
     rw [QK.out, QT.out, QG.out]
     simp [HO2.out, HO1.out]
    refine ⟨o2, rfl, ?_, ((HA2.out.set 0 _).set 1 _).set 2 _⟩
    rw [HE]
    exact H2.out.begin HT2.out
   ·skip
    have QK : Hid (keepOf keep = [⟨1, keep, []⟩]) := if_pos hk
    have QT : Hid (textOf [] = []) := if_pos rfl
    have QG : Hid (goneOf gone = []) := if_neg hg
    go_enter Tryd.func96, Tryd.ntmps96
    go_wp2_with fail
    refine (GR.out keep _).mono ?_
    rintro e v1 ⟨rfl, hb1⟩
    have K1 := xh (H0.out.below hb1)
    have KA1 := xh (HA0.out.trans (Aside.of_below hb1 H0.out.up))
    clear hb1
    go_wp2_with (at_builtin
                 refine yy30 rfl (.tmp 10) (.tmp 16) rfl B o0 out0 ⟨1, keep, []⟩ rfl K1.out.row K1.out.up rfl (by have := HLEN0.out; omega) ?_
                 intro out1 B1 d1 w1 ho1 hown1 hgr1
                 have HO1 := xh ho1
                 obtain ⟨o1, HOO1⟩ : ∃ o, Hid (o = Value.slice B1 out1.length d1) := ⟨_, rfl⟩
                 rw [← HOO1.out] at hown1 ⊢
                 have hp1 := K1.out.pushed KA1.out hgr1 hown1
                 have H1 := xh hp1.1
                 have HA1 := xh hp1.2
                 have HLEN1 : Hid (out1.length ≤ 274877906945) := by show _ ≤ _; rw [HO1.out, List.length_append]; have := HLEN0.out; simp only [List.length_cons, List.length_nil]; omega
                 clear ho1 hown1 hgr1 hp1
                 obtain ⟨A1, c1, z10, z11, z12, y10, y11, y12, ht1, hr1⟩ := H1.out.read
                 have HT1 := xh ht1; clear ht1
                 have HR1 := xh hr1; clear hr1
                 simp only at z10 z11 z12 HT1 HR1
                 simp only [List.length_nil] at z11
                 have SL : ∀ w, (Instr.slice 88 (.slice A1 0 c1) none (some (.int .i64 0)) none).run Tryd.prog w = .ok (.slice (addrHigh A1 c1) 0 c1) w := fun w => slice_high A1 0 c1 0 (Nat.zero_le _) w
                 have r1 := HR1.out.set 0 (.int .i64 0)
                 have x1 := r1.cell (i := 1) (by omega)
                 have f1 := r1.frozen 1
                 have r2 := r1.set 1 (.slice (addrHigh A1 c1) 0 c1)
                 have x2 := r2.cell (i := 2) (by omega)
                 have f2 := r2.frozen 2
                 replace x1 : World.cell? _ ⟨g, 1, none⟩ = some (.slice A1 0 c1) := x1
                 replace x2 : World.cell? _ ⟨g, 2, none⟩ = some (.int .i64 gone) := x2
                 clear r1 r2)
    go_ret
    have HE : NS.flush ⟨out0, keep, gone, []⟩ = out1 := by
     show out0 ++ keepOf keep ++ textOf [] ++ goneOf gone = out1
     rw [QK.out, QT.out, QG.out]
     simp [HO1.out]
    refine ⟨o1, rfl, ?_, ((HA1.out.set 0 _).set 1 _).set 2 _⟩
    rw [HE]
    exact H1.out.begin HT1.out
  ·have hl0 : 0 < tx.length := List.length_pos_iff.2 ht
   by_cases hg : 0 < gone
   ·skip
    have QK : Hid (keepOf keep = [⟨1, keep, []⟩]) := if_pos hk
    have QT : Hid (textOf tx = [⟨2, 0, tx⟩]) := if_neg ht
    have QG : Hid (goneOf gone = [⟨3, gone, []⟩]) := if_pos hg
    go_enter Tryd.func96, Tryd.ntmps96
    go_wp2_with fail
    refine (GR.out keep _).mono ?_
    rintro e v1 ⟨rfl, hb1⟩
    have K1 := xh (H0.out.below hb1)
    have KA1 := xh (HA0.out.trans (Aside.of_below hb1 H0.out.up))
    clear hb1
    go_wp2_with (at_builtin
                 refine yy30 rfl (.tmp 10) (.tmp 16) rfl B o0 out0 ⟨1, keep, []⟩ rfl K1.out.row K1.out.up rfl (by have := HLEN0.out; omega) ?_
                 intro out1 B1 d1 w1 ho1 hown1 hgr1
                 have HO1 := xh ho1
                 obtain ⟨o1, HOO1⟩ : ∃ o, Hid (o = Value.slice B1 out1.length d1) := ⟨_, rfl⟩
                 rw [← HOO1.out] at hown1 ⊢
                 have hp1 := K1.out.pushed KA1.out hgr1 hown1
                 have H1 := xh hp1.1
                 have HA1 := xh hp1.2
                 have HLEN1 : Hid (out1.length ≤ 274877906945) := by show _ ≤ _; rw [HO1.out, List.length_append]; have := HLEN0.out; simp only [List.length_cons, List.length_nil]; omega
                 clear ho1 hown1 hgr1 hp1
                 obtain ⟨A1, c1, z10, z11, z12, y10, y11, y12, ht1, hr1⟩ := H1.out.read
                 have HT1 := xh ht1; clear ht1
                 have HR1 := xh hr1; clear hr1
                 simp only at z10 z11 z12 HT1 HR1
                 have CV := (BytesAt.of_own HT1.out rfl).conv c1 9 Tryd.underlying9)
    go_wp2_with fail
    refine (GI.out tx _).mono ?_
    rintro e v2 ⟨rfl, hb2⟩
    have K2 := xh (H1.out.below hb2)
    have KA2 := xh (HA1.out.trans (Aside.of_below hb2 H1.out.up))
    clear hb2
    go_wp2_with (at_builtin
                 refine yy30 rfl (.tmp 24) (.tmp 31) rfl B o1 out1 ⟨2, 0, tx⟩ rfl K2.out.row K2.out.up rfl (by have := HLEN1.out; omega) ?_
                 intro out2 B2 d2 w2 ho2 hown2 hgr2
                 have HO2 := xh ho2
                 obtain ⟨o2, HOO2⟩ : ∃ o, Hid (o = Value.slice B2 out2.length d2) := ⟨_, rfl⟩
                 rw [← HOO2.out] at hown2 ⊢
                 have hp2 := K2.out.pushed KA2.out hgr2 hown2
                 have H2 := xh hp2.1
                 have HA2 := xh hp2.2
                 have HLEN2 : Hid (out2.length ≤ 274877906946) := by show _ ≤ _; rw [HO2.out, List.length_append]; have := HLEN1.out; simp only [List.length_cons, List.length_nil]; omega
                 clear ho2 hown2 hgr2 hp2
                 obtain ⟨A2, c2, z20, z21, z22, y20, y21, y22, ht2, hr2⟩ := H2.out.read
                 have HT2 := xh ht2; clear ht2
                 have HR2 := xh hr2; clear hr2
                 simp only at z20 z21 z22 HT2 HR2)
    go_wp2_with fail
    refine (GD.out gone _).mono ?_
    rintro e v3 ⟨rfl, hb3⟩
    have K3 := xh (H2.out.below hb3)
    have KA3 := xh (HA2.out.trans (Aside.of_below hb3 H2.out.up))
    clear hb3
    go_wp2_with (at_builtin
                 refine yy30 rfl (.tmp 38) (.tmp 44) rfl B o2 out2 ⟨3, gone, []⟩ rfl K3.out.row K3.out.up rfl (by have := HLEN2.out; omega) ?_
                 intro out3 B3 d3 w3 ho3 hown3 hgr3
                 have HO3 := xh ho3
                 obtain ⟨o3, HOO3⟩ : ∃ o, Hid (o = Value.slice B3 out3.length d3) := ⟨_, rfl⟩
                 rw [← HOO3.out] at hown3 ⊢
                 have hp3 := K3.out.pushed KA3.out hgr3 hown3
                 have H3 := xh hp3.1
                 have HA3 := xh hp3.2
                 have HLEN3 : Hid (out3.length ≤ 274877906947) := by show _ ≤ _; rw [HO3.out, List.length_append]; have := HLEN2.out; simp only [List.length_cons, List.length_nil]; omega
                 clear ho3 hown3 hgr3 hp3
                 obtain ⟨A3, c3, z30, z31, z32, y30, y31, y32, ht3, hr3⟩ := H3.out.read
                 have HT3 := xh ht3; clear ht3
                 have HR3 := xh hr3; clear hr3
                 simp only at z30 z31 z32 HT3 HR3
                 have SL : ∀ w, (Instr.slice 88 (.slice A3 tx.length c3) none (some (.int .i64 0)) none).run Tryd.prog w = .ok (.slice (addrHigh A3 c3) 0 c3) w := fun w => slice_high A3 tx.length c3 0 (Nat.zero_le _) w
                 have r1 := HR3.out.set 0 (.int .i64 0)
                 have x1 := r1.cell (i := 1) (by omega)
                 have f1 := r1.frozen 1
                 have r2 := r1.set 1 (.slice (addrHigh A3 c3) 0 c3)
                 have x2 := r2.cell (i := 2) (by omega)
                 have f2 := r2.frozen 2
                 replace x1 : World.cell? _ ⟨g, 1, none⟩ = some (.slice A3 tx.length c3) := x1
                 replace x2 : World.cell? _ ⟨g, 2, none⟩ = some (.int .i64 gone) := x2
                 clear r1 r2)
    go_ret
    have HE : NS.flush ⟨out0, keep, gone, tx⟩ = out3 := by
     show out0 ++ keepOf keep ++ textOf tx ++ goneOf gone = out3
     rw [QK.out, QT.out, QG.out]
     simp [HO3.out, HO2.out, HO1.out]
    refine ⟨o3, rfl, ?_, ((HA3.out.set 0 _).set 1 _).set 2 _⟩
    rw [HE]
    exact H3.out.begin HT3.out
   ·skip
    have QK : Hid (keepOf keep = [⟨1, keep, []⟩]) := if_pos hk
    have QT : Hid (textOf tx = [⟨2, 0, tx⟩]) := if_neg ht
    have QG : Hid (goneOf gone = []) := if_neg hg
    go_enter Tryd.func96, Tryd.ntmps96
    go_wp2_with fail
    refine (GR.out keep _).mono ?_
    rintro e v1 ⟨rfl, hb1⟩
    have K1 := xh (H0.out.below hb1)
    have KA1 := xh (HA0.out.trans (Aside.of_below hb1 H0.out.up))
    clear hb1
    go_wp2_with (at_builtin
                 refine yy30 rfl (.tmp 10) (.tmp 16) rfl B o0 out0 ⟨1, keep, []⟩ rfl K1.out.row K1.out.up rfl (by have := HLEN0.out; omega) ?_
                 intro out1 B1 d1 w1 ho1 hown1 hgr1
                 have HO1 := xh ho1
                 obtain ⟨o1, HOO1⟩ : ∃ o, Hid (o = Value.slice B1 out1.length d1) := ⟨_, rfl⟩
                 rw [← HOO1.out] at hown1 ⊢
                 have hp1 := K1.out.pushed KA1.out hgr1 hown1
                 have H1 := xh hp1.1
                 have HA1 := xh hp1.2
                 have HLEN1 : Hid (out1.length ≤ 274877906945) := by show _ ≤ _; rw [HO1.out, List.length_append]; have := HLEN0.out; simp only [List.length_cons, List.length_nil]; omega
                 clear ho1 hown1 hgr1 hp1
                 obtain ⟨A1, c1, z10, z11, z12, y10, y11, y12, ht1, hr1⟩ := H1.out.read
                 have HT1 := xh ht1; clear ht1
                 have HR1 := xh hr1; clear hr1
                 simp only at z10 z11 z12 HT1 HR1
                 have CV := (BytesAt.of_own HT1.out rfl).conv c1 9 Tryd.underlying9)
    go_wp2_with fail
    refine (GI.out tx _).mono ?_
    rintro e v2 ⟨rfl, hb2⟩
    have K2 := xh (H1.out.below hb2)
    have KA2 := xh (HA1.out.trans (Aside.of_below hb2 H1.out.up))
    clear hb2
    go_wp2_with (at_builtin
                 refine yy30 rfl (.tmp 24) (.tmp 31) rfl B o1 out1 ⟨2, 0, tx⟩ rfl K2.out.row K2.out.up rfl (by have := HLEN1.out; omega) ?_
                 intro out2 B2 d2 w2 ho2 hown2 hgr2
                 have HO2 := xh ho2
                 obtain ⟨o2, HOO2⟩ : ∃ o, Hid (o = Value.slice B2 out2.length d2) := ⟨_, rfl⟩
                 rw [← HOO2.out] at hown2 ⊢
                 have hp2 := K2.out.pushed KA2.out hgr2 hown2
                 have H2 := xh hp2.1
                 have HA2 := xh hp2.2
                 have HLEN2 : Hid (out2.length ≤ 274877906946) := by show _ ≤ _; rw [HO2.out, List.length_append]; have := HLEN1.out; simp only [List.length_cons, List.length_nil]; omega
                 clear ho2 hown2 hgr2 hp2
                 obtain ⟨A2, c2, z20, z21, z22, y20, y21, y22, ht2, hr2⟩ := H2.out.read
                 have HT2 := xh ht2; clear ht2
                 have HR2 := xh hr2; clear hr2
                 simp only at z20 z21 z22 HT2 HR2
                 have SL : ∀ w, (Instr.slice 88 (.slice A2 tx.length c2) none (some (.int .i64 0)) none).run Tryd.prog w = .ok (.slice (addrHigh A2 c2) 0 c2) w := fun w => slice_high A2 tx.length c2 0 (Nat.zero_le _) w
                 have r1 := HR2.out.set 0 (.int .i64 0)
                 have x1 := r1.cell (i := 1) (by omega)
                 have f1 := r1.frozen 1
                 have r2 := r1.set 1 (.slice (addrHigh A2 c2) 0 c2)
                 have x2 := r2.cell (i := 2) (by omega)
                 have f2 := r2.frozen 2
                 replace x1 : World.cell? _ ⟨g, 1, none⟩ = some (.slice A2 tx.length c2) := x1
                 replace x2 : World.cell? _ ⟨g, 2, none⟩ = some (.int .i64 gone) := x2
                 clear r1 r2)
    go_ret
    have HE : NS.flush ⟨out0, keep, gone, tx⟩ = out2 := by
     show out0 ++ keepOf keep ++ textOf tx ++ goneOf gone = out2
     rw [QK.out, QT.out, QG.out]
     simp [HO2.out, HO1.out]
    refine ⟨o2, rfl, ?_, ((HA2.out.set 0 _).set 1 _).set 2 _⟩
    rw [HE]
    exact H2.out.begin HT2.out
 ·skip
  by_cases ht : tx = []
  ·subst ht
   simp only [List.length_nil] at z01
   by_cases hg : 0 < gone
   ·skip
    have QK : Hid (keepOf keep = []) := if_neg hk
    have QT : Hid (textOf [] = []) := if_pos rfl
    have QG : Hid (goneOf gone = [⟨3, gone, []⟩]) := if_pos hg
    go_enter Tryd.func96, Tryd.ntmps96
    go_wp2_with fail
    refine (GD.out gone _).mono ?_
    rintro e v1 ⟨rfl, hb1⟩
    have K1 := xh (H0.out.below hb1)
    have KA1 := xh (HA0.out.trans (Aside.of_below hb1 H0.out.up))
    clear hb1
    go_wp2_with (at_builtin
                 refine yy30 rfl (.tmp 38) (.tmp 44) rfl B o0 out0 ⟨3, gone, []⟩ rfl K1.out.row K1.out.up rfl (by have := HLEN0.out; omega) ?_
                 intro out1 B1 d1 w1 ho1 hown1 hgr1
                 have HO1 := xh ho1
                 obtain ⟨o1, HOO1⟩ : ∃ o, Hid (o = Value.slice B1 out1.length d1) := ⟨_, rfl⟩
                 rw [← HOO1.out] at hown1 ⊢
                 have hp1 := K1.out.pushed KA1.out hgr1 hown1
                 have H1 := xh hp1.1
                 have HA1 := xh hp1.2
                 have HLEN1 : Hid (out1.length ≤ 274877906945) := by show _ ≤ _; rw [HO1.out, List.length_append]; have := HLEN0.out; simp only [List.length_cons, List.length_nil]; omega
                 clear ho1 hown1 hgr1 hp1
                 obtain ⟨A1, c1, z10, z11, z12, y10, y11, y12, ht1, hr1⟩ := H1.out.read
                 have HT1 := xh ht1; clear ht1
                 have HR1 := xh hr1; clear hr1
                 simp only at z10 z11 z12 HT1 HR1
                 simp only [List.length_nil] at z11
                 have SL : ∀ w, (Instr.slice 88 (.slice A1 0 c1) none (some (.int .i64 0)) none).run Tryd.prog w = .ok (.slice (addrHigh A1 c1) 0 c1) w := fun w => slice_high A1 0 c1 0 (Nat.zero_le _) w
                 have r1 := HR1.out.set 0 (.int .i64 0)
                 have x1 := r1.cell (i := 1) (by omega)
                 have f1 := r1.frozen 1
                 have r2 := r1.set 1 (.slice (addrHigh A1 c1) 0 c1)
                 have x2 := r2.cell (i := 2) (by omega)
                 have f2 := r2.frozen 2
                 replace x1 : World.cell? _ ⟨g, 1, none⟩ = some (.slice A1 0 c1) := x1
                 replace x2 : World.cell? _ ⟨g, 2, none⟩ = some (.int .i64 gone) := x2
                 clear r1 r2)
    go_ret
    have HE : NS.flush ⟨out0, keep, gone, []⟩ = out1 := by
     show out0 ++ keepOf keep ++ textOf [] ++ goneOf gone = out1
     rw [QK.out, QT.out, QG.out]
     simp [HO1.out]
    refine ⟨o1, rfl, ?_, ((HA1.out.set 0 _).set 1 _).set 2 _⟩
    rw [HE]
    exact H1.out.begin HT1.out
   ·skip
    have QK : Hid (keepOf keep = []) := if_neg hk
    have QT : Hid (textOf [] = []) := if_pos rfl
    have QG : Hid (goneOf gone = []) := if_neg hg
    go_enter Tryd.func96, Tryd.ntmps96
    have SL : ∀ w, (Instr.slice 88 (.slice A0 0 c0) none (some (.int .i64 0)) none).run Tryd.prog w = .ok (.slice (addrHigh A0 c0) 0 c0) w := fun w => slice_high A0 0 c0 0 (Nat.zero_le _) w
    have r1 := HR0.out.set 0 (.int .i64 0)
    have x1 := r1.cell (i := 1) (by omega)
    have f1 := r1.frozen 1
    have r2 := r1.set 1 (.slice (addrHigh A0 c0) 0 c0)
    have x2 := r2.cell (i := 2) (by omega)
    have f2 := r2.frozen 2
    replace x1 : World.cell? _ ⟨g, 1, none⟩ = some (.slice A0 0 c0) := x1
    replace x2 : World.cell? _ ⟨g, 2, none⟩ = some (.int .i64 gone) := x2
    clear r1 r2
    go_wp2
    go_ret
    have HE : NS.flush ⟨out0, keep, gone, []⟩ = out0 := by
     show out0 ++ keepOf keep ++ textOf [] ++ goneOf gone = out0
     rw [QK.out, QT.out, QG.out]
     simp
    refine ⟨o0, rfl, ?_, ((HA0.out.set 0 _).set 1 _).set 2 _⟩
    rw [HE]
    exact H0.out.begin HT0.out
  ·have hl0 : 0 < tx.length := List.length_pos_iff.2 ht
   by_cases hg : 0 < gone
   ·skip
    have QK : Hid (keepOf keep = []) := if_neg hk
    have QT : Hid (textOf tx = [⟨2, 0, tx⟩]) := if_neg ht
    have QG : Hid (goneOf gone = [⟨3, gone, []⟩]) := if_pos hg
    go_enter Tryd.func96, Tryd.ntmps96
    have CV := (BytesAt.of_own HT0.out rfl).conv c0 9 Tryd.underlying9
    go_wp2_with fail
    refine (GI.out tx _).mono ?_
    rintro e v1 ⟨rfl, hb1⟩
    have K1 := xh (H0.out.below hb1)
    have KA1 := xh (HA0.out.trans (Aside.of_below hb1 H0.out.up))
    clear hb1
    go_wp2_with (at_builtin
                 refine yy30 rfl (.tmp 24) (.tmp 31) rfl B o0 out0 ⟨2, 0, tx⟩ rfl K1.out.row K1.out.up rfl (by have := HLEN0.out; omega) ?_
                 intro out1 B1 d1 w1 ho1 hown1 hgr1
                 have HO1 := xh ho1
                 obtain ⟨o1, HOO1⟩ : ∃ o, Hid (o = Value.slice B1 out1.length d1) := ⟨_, rfl⟩
                 rw [← HOO1.out] at hown1 ⊢
                 have hp1 := K1.out.pushed KA1.out hgr1 hown1
                 have H1 := xh hp1.1
                 have HA1 := xh hp1.2
                 have HLEN1 : Hid (out1.length ≤ 274877906945) := by show _ ≤ _; rw [HO1.out, List.length_append]; have := HLEN0.out; simp only [List.length_cons, List.length_nil]; omega
                 clear ho1 hown1 hgr1 hp1
                 obtain ⟨A1, c1, z10, z11, z12, y10, y11, y12, ht1, hr1⟩ := H1.out.read
                 have HT1 := xh ht1; clear ht1
                 have HR1 := xh hr1; clear hr1
                 simp only at z10 z11 z12 HT1 HR1)
    go_wp2_with fail
    refine (GD.out gone _).mono ?_
    rintro e v2 ⟨rfl, hb2⟩
    have K2 := xh (H1.out.below hb2)
    have KA2 := xh (HA1.out.trans (Aside.of_below hb2 H1.out.up))
    clear hb2
    go_wp2_with (at_builtin
                 refine yy30 rfl (.tmp 38) (.tmp 44) rfl B o1 out1 ⟨3, gone, []⟩ rfl K2.out.row K2.out.up rfl (by have := HLEN1.out; omega) ?_
                 intro out2 B2 d2 w2 ho2 hown2 hgr2
                 have HO2 := xh ho2
                 obtain ⟨o2, HOO2⟩ : ∃ o, Hid (o = Value.slice B2 out2.length d2) := ⟨_, rfl⟩
                 rw [← HOO2.out] at hown2 ⊢
                 have hp2 := K2.out.pushed KA2.out hgr2 hown2
                 have H2 := xh hp2.1
                 have HA2 := xh hp2.2
                 have HLEN2 : Hid (out2.length ≤ 274877906946) := by show _ ≤ _; rw [HO2.out, List.length_append]; have := HLEN1.out; simp only [List.length_cons, List.length_nil]; omega
                 clear ho2 hown2 hgr2 hp2
                 obtain ⟨A2, c2, z20, z21, z22, y20, y21, y22, ht2, hr2⟩ := H2.out.read
                 have HT2 := xh ht2; clear ht2
                 have HR2 := xh hr2; clear hr2
                 simp only at z20 z21 z22 HT2 HR2
                 have SL : ∀ w, (Instr.slice 88 (.slice A2 tx.length c2) none (some (.int .i64 0)) none).run Tryd.prog w = .ok (.slice (addrHigh A2 c2) 0 c2) w := fun w => slice_high A2 tx.length c2 0 (Nat.zero_le _) w
                 have r1 := HR2.out.set 0 (.int .i64 0)
                 have x1 := r1.cell (i := 1) (by omega)
                 have f1 := r1.frozen 1
                 have r2 := r1.set 1 (.slice (addrHigh A2 c2) 0 c2)
                 have x2 := r2.cell (i := 2) (by omega)
                 have f2 := r2.frozen 2
                 replace x1 : World.cell? _ ⟨g, 1, none⟩ = some (.slice A2 tx.length c2) := x1
                 replace x2 : World.cell? _ ⟨g, 2, none⟩ = some (.int .i64 gone) := x2
                 clear r1 r2)
    go_ret
    have HE : NS.flush ⟨out0, keep, gone, tx⟩ = out2 := by
     show out0 ++ keepOf keep ++ textOf tx ++ goneOf gone = out2
     rw [QK.out, QT.out, QG.out]
     simp [HO2.out, HO1.out]
    refine ⟨o2, rfl, ?_, ((HA2.out.set 0 _).set 1 _).set 2 _⟩
    rw [HE]
    exact H2.out.begin HT2.out
   ·skip
    have QK : Hid (keepOf keep = []) := if_neg hk
    have QT : Hid (textOf tx = [⟨2, 0, tx⟩]) := if_neg ht
    have QG : Hid (goneOf gone = []) := if_neg hg
    go_enter Tryd.func96, Tryd.ntmps96
    have CV := (BytesAt.of_own HT0.out rfl).conv c0 9 Tryd.underlying9
    go_wp2_with fail
    refine (GI.out tx _).mono ?_
    rintro e v1 ⟨rfl, hb1⟩
    have K1 := xh (H0.out.below hb1)
    have KA1 := xh (HA0.out.trans (Aside.of_below hb1 H0.out.up))
    clear hb1
    go_wp2_with (at_builtin
                 refine yy30 rfl (.tmp 24) (.tmp 31) rfl B o0 out0 ⟨2, 0, tx⟩ rfl K1.out.row K1.out.up rfl (by have := HLEN0.out; omega) ?_
                 intro out1 B1 d1 w1 ho1 hown1 hgr1
                 have HO1 := xh ho1
                 obtain ⟨o1, HOO1⟩ : ∃ o, Hid (o = Value.slice B1 out1.length d1) := ⟨_, rfl⟩
                 rw [← HOO1.out] at hown1 ⊢
                 have hp1 := K1.out.pushed KA1.out hgr1 hown1
                 have H1 := xh hp1.1
                 have HA1 := xh hp1.2
                 have HLEN1 : Hid (out1.length ≤ 274877906945) := by show _ ≤ _; rw [HO1.out, List.length_append]; have := HLEN0.out; simp only [List.length_cons, List.length_nil]; omega
                 clear ho1 hown1 hgr1 hp1
                 obtain ⟨A1, c1, z10, z11, z12, y10, y11, y12, ht1, hr1⟩ := H1.out.read
                 have HT1 := xh ht1; clear ht1
                 have HR1 := xh hr1; clear hr1
                 simp only at z10 z11 z12 HT1 HR1
                 have SL : ∀ w, (Instr.slice 88 (.slice A1 tx.length c1) none (some (.int .i64 0)) none).run Tryd.prog w = .ok (.slice (addrHigh A1 c1) 0 c1) w := fun w => slice_high A1 tx.length c1 0 (Nat.zero_le _) w
                 have r1 := HR1.out.set 0 (.int .i64 0)
                 have x1 := r1.cell (i := 1) (by omega)
                 have f1 := r1.frozen 1
                 have r2 := r1.set 1 (.slice (addrHigh A1 c1) 0 c1)
                 have x2 := r2.cell (i := 2) (by omega)
                 have f2 := r2.frozen 2
                 replace x1 : World.cell? _ ⟨g, 1, none⟩ = some (.slice A1 tx.length c1) := x1
                 replace x2 : World.cell? _ ⟨g, 2, none⟩ = some (.int .i64 gone) := x2
                 clear r1 r2)
    go_ret
    have HE : NS.flush ⟨out0, keep, gone, tx⟩ = out1 := by
     show out0 ++ keepOf keep ++ textOf tx ++ goneOf gone = out1
     rw [QK.out, QT.out, QG.out]
     simp [HO1.out]
    refine ⟨o1, rfl, ?_, ((HA1.out.set 0 _).set 1 _).set 2 _⟩
    rw [HE]
    exact H1.out.begin HT1.out
end Go.Proofs.YtjpjdkdbgjipnaaDoor
namespace Go.Proofs.YtjpjdkdbgjipnaaDoor
open Go.RowKit
theorem yy7 {K : Act → World → Prop} {Q : Exit → Act → World → Prop} {l : Nat} {a : Act} {w : World} : Exit.then K Q (.goto l) a w = Q (.goto l) a w := rfl
theorem yy9 {id : Nat} {Q : Exit → Act → World → Prop} {l : Nat} {a : Act} {w : World} : Exit.inBlock id Q (.goto l) a w = Q (.goto l) a w := rfl
set_option maxHeartbeats 4000000 in
set_option maxRecDepth 100000 in
theorem yy217 (k : Nat) (hk : ∀ (args : Array Value) (w : World), (callFunc k args).run Tryd.prog w = .ok (.enter k args) w) (cap : Array Value) (l : List Nat) (hl : l.length ≤ 1099511627776) (hb : ∀ x ∈ l, x < 256) (Inv : List Nat → World → Prop)
  (hshow : ∀ vs v w, Inv vs w → May v → (E (vs ++ [v])).length ≤ l.length → Calls Tryd.prog k (#[.int .i64 ((v : Nat) : Int), .int .i64 (((E (vs ++ [v])).length : Nat) : Int)] ++ cap) w fun e w' => e = .returned (.tuple #[]) ∧ Inv (vs ++ [v]) w')
  (w : World) (h0 : Inv [] w) :
  Calls Tryd.prog 107 #[.string (bstr l), .func (.func k) #[] cap] w fun e w' =>
   (∃ vs, V l vs ∧ e = .returned (.bool true) ∧ Inv vs w') ∨ ((¬ ∃ vs, V l vs) ∧ e = .returned (.bool false) ∧ ∃ vs, Inv vs w') := by
 have HS := xh hshow; clear hshow
 have HB := xh hb; clear hb
 have HL := xh hl; clear hl
 have H0 := xh h0; clear h0
 have HD := xh (bstr_size l)
 go_enter Tryd.func107, Tryd.ntmps107
 go_wp2
 refine yy271 (WJ l (.func (.func k) #[] cap) Inv) (Wμ l.length) ?hJ rfl rfl rfl rfl ?p2 ?p1 ?p3 ?p0 ?first
 case hJ =>
  intro j a w h
  match j, h with
  | 0, _ => omega
  | 1, _ => omega
  | 2, _ => omega
  | 3, _ => omega
  | (n + 4), h => exact h.elim
 case p2 =>
  rintro a w ⟨at_, p, le, lf, hf, hn, vs, hv⟩
  rw [Wμ2]
  have HN := xh hn; clear hn
  obtain ⟨f, rfl⟩ := hf.out
  clear hf
  go_wp2
  rw [yy315]
  go_ret
  exact .inr ⟨HN.out, rfl, vs, hv⟩
 case p1 =>
  rintro a w ⟨vs, r, t, at_, p, le, lf, hf, hm, hlr, hr, hat, hd, hst, hp, hle, hv⟩
  rw [Wμ1 hf]
  obtain ⟨m, HM⟩ : ∃ m, Hid (m = 4 * (l.length - at_) + 2) := ⟨_, rfl⟩
  rw [← HM.out]
  obtain ⟨f, rfl⟩ := hf.out
  clear hf
  have HV := xh hv; clear hv
  have HMM := xh hm; clear hm
  have HLR := xh hlr; clear hlr
  have HR := xh hr; clear hr
  have HT := xh hd; clear hd
  have HST := xh hst; clear hst
  rw [yy43] at HST
  by_cases h1 : p < le
  ·have HN : Hid (¬ ∃ ws, V l ws) := by
    show ¬ ∃ ws, V l ws
    rw [HLR.out]
    exact yy65 HMM.out HR.out (by rw [HST.out, if_pos (.inl h1)])
   go_wp2
   go_step3
   rw [yy7, yy36, Wμ2]
   exact ⟨⟨at_, _, _, lf, Fr.mk ⟨rfl, rfl, rfl, rfl, rfl, rfl, rfl⟩, HN.out, vs, HV.out⟩, by have := HM.out; omega⟩
  ·by_cases h2 : May p
   ·have HS2 : Hid (st r = some (p, t)) := by show st r = some (p, t); rw [HST.out, if_neg (fun hh => hh.elim h1 (fun h => h h2))]
    have HAT : Hid (at_ = (E (vs ++ [p])).length) := by
     show at_ = (E (vs ++ [p])).length
     have h3 := congrArg List.length HLR.out
     rw [(yy129 HS2.out).2, ← List.append_assoc, ← E_snoc, List.length_append] at h3
     omega
    go_wp2_with (go_at_call 110; refine (yy475 h2 _).mono ?_; rintro e w' ⟨rfl, rfl⟩)
    rw [HAT.out]
    refine (HS.out vs p _ HV.out h2 (by rw [← HAT.out]; omega)).mono ?_
    rintro e w' ⟨rfl, hv'⟩
    have HV' := xh hv'; clear hv'
    go_wp2
    go_step3
    rw [yy7, yy36, Wμ0 (s := .string (bstr l)) (sh := .func (.func k) #[] cap) (at_ := (E (vs ++ [p])).length) (Fr.mk ⟨rfl, rfl, rfl, rfl, rfl, rfl, rfl⟩)]
    refine ⟨⟨vs ++ [p], t, _, _, lf, Fr.mk ⟨rfl, rfl, rfl, rfl, rfl, rfl, rfl⟩, ?_, ?_, HV'.out⟩, ?_⟩
    ·intro v hv
     rcases List.mem_append.1 hv with hv | hv
     ·exact HMM.out v hv
     ·rw [List.mem_singleton.1 hv]; exact h2
    ·rw [E_snoc, List.append_assoc, ← (yy129 HS2.out).2, ← HLR.out]
    ·rw [← HAT.out, HM.out]; omega
   ·have HN : Hid (¬ ∃ ws, V l ws) := by
     show ¬ ∃ ws, V l ws
     rw [HLR.out]
     exact yy65 HMM.out HR.out (by rw [HST.out, if_pos (.inr h2)])
    go_wp2_with (go_at_call 110; refine (yy476 h2 _).mono ?_; rintro e w' ⟨rfl, rfl⟩)
    go_step3
    rw [yy7, yy36, Wμ2]
    exact ⟨⟨at_, _, _, lf, Fr.mk ⟨rfl, rfl, rfl, rfl, rfl, rfl, rfl⟩, HN.out, vs, HV.out⟩, by have := HM.out; omega⟩
 case p3 =>
  rintro P1 a w ⟨vs, r, t, at_, p, le, n, hf, hm, hlr, hr, hat, hd, hst, hp, hle, hv⟩
  have P1' := xh P1; clear P1
  rw [Wμ3 hf]
  obtain ⟨m, HM⟩ : ∃ m, Hid (m = 4 * (l.length - at_) + 3) := ⟨_, rfl⟩
  rw [← HM.out]
  obtain ⟨f, rfl⟩ := hf.out
  clear hf
  have HV := xh hv; clear hv
  have HMM := xh hm; clear hm
  have HLR := xh hlr; clear hlr
  have HR := xh hr; clear hr
  have HST := xh hst; clear hst
  have HP := xh hp; clear hp
  have hsz := HD.out
  have hl := HL.out
  obtain ⟨n, rfl⟩ : ∃ k, n = k + 1 := ⟨n - 1, by have := HP.out; omega⟩
  cases t with
  | nil =>
   have hat' : at_ = l.length := by simpa using hat
   have HN : Hid (¬ ∃ ws, V l ws) := by
    show ¬ ∃ ws, V l ws
    rw [HLR.out]
    exact yy65 HMM.out HR.out (by rw [HST.out, yy216])
   clear hd hat
   subst hat'
   go_wp2
   go_step3
   rw [yy7, yy36, Wμ2]
   exact ⟨⟨l.length, _, _, _, Fr.mk ⟨rfl, rfl, rfl, rfl, rfl, rfl, rfl⟩, HN.out, vs, HV.out⟩, by have := HM.out; omega⟩
  | cons d t =>
   have HT := xh hd
   have hix := fun w => byte_at HB.out hd w
   have hd256 : d < 256 := HB.out d (List.mem_of_mem_drop (by rw [hd]; exact List.mem_cons_self ..))
   clear hd
   have hat' : at_ + t.length + 1 = l.length := by simpa [Nat.add_assoc] using hat
   clear hat
   rw [yy58] at HST
   by_cases h2 : d / 64 = 2
   ·have HST2 : Hid (st r = fur n (p * 64 + d % 64) le t) := by show st r = _; rw [HST.out, if_pos h2]
    have hne : at_ < l.length := by omega
    have e1 : ((at_ : Int) == (l.length : Int)) = false := xn (by omega)
    have e2 : (((d : Int) / 64) != 2) = false := by simp; omega
    obtain ⟨q, HQ⟩ : ∃ q, Hid (q = p * 64 + d % 64) := ⟨_, rfl⟩
    have hp2 : p < 32768 := by have := HP.out; omega
    have eor := bor6 p d hp2
    rw [← HQ.out] at eor
    have hdr : Hid (l.drop (at_ + 1) = t) := by show l.drop (at_ + 1) = t; rw [← List.drop_drop, HT.out]; rfl
    have HST3 : Hid (st r = fur n q le t) := by show _ = _; rw [HST2.out, HQ.out]
    cases n with
    | zero =>
     have hq : Hid (q ≤ 2097152) := by show q ≤ 2097152; rw [HQ.out]; omega
     go_wp2
     go_step3
     rename_i K hK
     refine hK _ _ (yy111 ?_ (P1'.out _ _ ⟨vs, r, t, at_ + 1, q, le, _, Fr.mk ⟨rfl, rfl, rfl, rfl, rfl, rfl, rfl⟩, HMM.out, HLR.out, HR.out, by omega, hdr.out, HST3.out, hq.out, hle, HV.out⟩))
     rw [Wμ1 (s := .string (bstr l)) (sh := .func (.func k) #[] cap) (at_ := at_ + 1) (Fr.mk ⟨rfl, rfl, rfl, rfl, rfl, rfl, rfl⟩), HM.out]
     omega
    | succ n =>
     have hn2 : n < 2 := by have := HP.out; omega
     have hq : Hid (n + 1 = 1 ∧ q < 32768 ∨ n + 1 = 2 ∧ q < 512 ∨ n + 1 = 3 ∧ q < 8) := by show _ ∨ _; rw [HQ.out]; have := HP.out; omega
     go_wp2
     go_step3
     rw [yy7, yy36, Wμ3 (s := .string (bstr l)) (sh := .func (.func k) #[] cap) (at_ := at_ + 1) (Fr.mk ⟨rfl, rfl, rfl, rfl, rfl, rfl, rfl⟩)]
     exact ⟨⟨vs, r, t, at_ + 1, q, le, n + 1, Fr.mk ⟨rfl, rfl, rfl, rfl, rfl, rfl, rfl⟩, HMM.out, HLR.out, HR.out, by omega, hdr.out, HST3.out, hq.out, hle, HV.out⟩, by rw [HM.out]; omega⟩
   ·have HN : Hid (¬ ∃ ws, V l ws) := by
     show ¬ ∃ ws, V l ws
     rw [HLR.out]
     exact yy65 HMM.out HR.out (by rw [HST.out, if_neg h2])
    have hne : at_ < l.length := by omega
    have e1 : ((at_ : Int) == (l.length : Int)) = false := xn (by omega)
    have e2 : (((d : Int) / 64) != 2) = true := by simp; omega
    go_wp2
    go_step3
    rw [yy7, yy36, Wμ2]
    exact ⟨⟨at_, _, _, _, Fr.mk ⟨rfl, rfl, rfl, rfl, rfl, rfl, rfl⟩, HN.out, vs, HV.out⟩, by have := HM.out; omega⟩
 case p0 =>
  rintro P3 a w ⟨vs, r, p, le, lf, hf, hm, hlr, hv⟩
  have P3' := xh P3; clear P3
  rw [Wμ0 hf]
  obtain ⟨m, HM⟩ : ∃ m, Hid (m = 4 * (l.length - (E vs).length) + 1) := ⟨_, rfl⟩
  rw [← HM.out]
  obtain ⟨f, rfl⟩ := hf.out
  clear hf
  have HV := xh hv; clear hv
  have HMM := xh hm; clear hm
  have HLR := xh hlr; clear hlr
  have hsz := HD.out
  have hl := HL.out
  have hlen : (E vs).length + r.length = l.length := by rw [← List.length_append, ← HLR.out]
  cases r with
  | nil =>
   have HVV : Hid (V l vs) := ⟨HMM.out, by rw [HLR.out]; simp⟩
   have e0 : (E vs).length = l.length := by simpa using hlen
   have e1 : (((E vs).length : Int) == (l.length : Int)) = true := by rw [e0]; exact beq_self_eq_true _
   go_wp2
   all_goals rw [yy315]
   go_ret
   exact .inl ⟨vs, HVV.out, rfl, HV.out⟩
  | cons c t =>
   have hlen' : (E vs).length + t.length + 1 = l.length := by simpa [Nat.add_assoc] using hlen
   clear hlen
   have hd0 : l.drop (E vs).length = c :: t := by rw [HLR.out, List.drop_left' rfl]
   have HDR : Hid (l.drop ((E vs).length + 1) = t) := by show l.drop ((E vs).length + 1) = t; rw [← List.drop_drop, hd0]; rfl
   have hix := fun w => byte_at HB.out hd0 w
   have hc256 : c < 256 := HB.out c (by rw [HLR.out]; simp)
   clear hd0
   have e1 : (((E vs).length : Int) == (l.length : Int)) = false := xn (by omega)
   have hne : (E vs).length < l.length := by omega
   by_cases h1 : c < 128
   ·have HS2 : Hid (st (c :: t) = fur 0 c 0 t) := by show _ = _; rw [yy46, if_pos h1]
    go_wp2
    go_step3
    rw [yy9, yy7, yy36, Wμ1 (s := .string (bstr l)) (sh := .func (.func k) #[] cap) (at_ := (E vs).length + 1) (Fr.mk ⟨rfl, rfl, rfl, rfl, rfl, rfl, rfl⟩)]
    exact ⟨⟨vs, c :: t, t, (E vs).length + 1, c, 0, lf, Fr.mk ⟨rfl, rfl, rfl, rfl, rfl, rfl, rfl⟩, HMM.out, HLR.out, by simp, by omega, HDR.out, HS2.out, by omega, by omega, HV.out⟩, by rw [HM.out]; omega⟩
   by_cases h2 : c < 192
   ·have HN : Hid (¬ ∃ ws, V l ws) := by
     show ¬ ∃ ws, V l ws
     rw [HLR.out]
     exact yy65 HMM.out (by simp) (by rw [yy46, if_neg h1, if_pos h2])
    go_wp2
    go_step3
    rw [yy9, yy7, yy36, Wμ2]
    exact ⟨⟨(E vs).length + 1, _, _, _, Fr.mk ⟨rfl, rfl, rfl, rfl, rfl, rfl, rfl⟩, HN.out, vs, HV.out⟩, by have := HM.out; omega⟩
   by_cases h3 : c < 224
   ·have HS2 : Hid (st (c :: t) = fur 1 (c % 32) 128 t) := by show _ = _; rw [yy46, if_neg (by omega), if_neg (by omega), if_pos (by omega)]
    have em : Hid (((c : Int) % 32) = ((c % 32 : Nat) : Int)) := by show ((c : Int) % 32) = ((c % 32 : Nat) : Int); omega
    have hc1 : ¬ c < 128 := by omega
    have hc2 : ¬ c < 192 := by omega
    go_wp2
    go_step3
    rename_i K hK
    rw [em.out]
    refine hK _ _ (yy111 ?_ (P3'.out _ _ ⟨vs, c :: t, t, (E vs).length + 1, c % 32, 128, 1, Fr.mk ⟨rfl, rfl, rfl, rfl, rfl, rfl, rfl⟩, HMM.out, HLR.out, by simp, by omega, HDR.out, HS2.out, by omega, by omega, HV.out⟩))
    rw [Wμ3 (s := .string (bstr l)) (sh := .func (.func k) #[] cap) (at_ := (E vs).length + 1) (Fr.mk ⟨rfl, rfl, rfl, rfl, rfl, rfl, rfl⟩), HM.out]
    omega
   by_cases h4 : c < 240
   ·have HS2 : Hid (st (c :: t) = fur 2 (c % 16) 2048 t) := by show _ = _; rw [yy46, if_neg (by omega), if_neg (by omega), if_neg (by omega), if_pos (by omega)]
    have em : Hid (((c : Int) % 16) = ((c % 16 : Nat) : Int)) := by show ((c : Int) % 16) = ((c % 16 : Nat) : Int); omega
    have hc1 : ¬ c < 128 := by omega
    have hc2 : ¬ c < 192 := by omega
    have hc3 : ¬ c < 224 := by omega
    go_wp2
    go_step3
    rename_i K hK
    rw [em.out]
    refine hK _ _ (yy111 ?_ (P3'.out _ _ ⟨vs, c :: t, t, (E vs).length + 1, c % 16, 2048, 2, Fr.mk ⟨rfl, rfl, rfl, rfl, rfl, rfl, rfl⟩, HMM.out, HLR.out, by simp, by omega, HDR.out, HS2.out, by omega, by omega, HV.out⟩))
    rw [Wμ3 (s := .string (bstr l)) (sh := .func (.func k) #[] cap) (at_ := (E vs).length + 1) (Fr.mk ⟨rfl, rfl, rfl, rfl, rfl, rfl, rfl⟩), HM.out]
    omega
   by_cases h5 : c < 248
   ·have HS2 : Hid (st (c :: t) = fur 3 (c % 8) 65536 t) := by show _ = _; rw [yy46, if_neg (by omega), if_neg (by omega), if_neg (by omega), if_neg (by omega), if_pos (by omega)]
    have em : Hid (((c : Int) % 8) = ((c % 8 : Nat) : Int)) := by show ((c : Int) % 8) = ((c % 8 : Nat) : Int); omega
    have hc1 : ¬ c < 128 := by omega
    have hc2 : ¬ c < 192 := by omega
    have hc3 : ¬ c < 224 := by omega
    have hc4 : ¬ c < 240 := by omega
    go_wp2
    go_step3
    rename_i K hK
    rw [em.out]
    refine hK _ _ (yy111 ?_ (P3'.out _ _ ⟨vs, c :: t, t, (E vs).length + 1, c % 8, 65536, 3, Fr.mk ⟨rfl, rfl, rfl, rfl, rfl, rfl, rfl⟩, HMM.out, HLR.out, by simp, by omega, HDR.out, HS2.out, by omega, by omega, HV.out⟩))
    rw [Wμ3 (s := .string (bstr l)) (sh := .func (.func k) #[] cap) (at_ := (E vs).length + 1) (Fr.mk ⟨rfl, rfl, rfl, rfl, rfl, rfl, rfl⟩), HM.out]
    omega
   ·have HN : Hid (¬ ∃ ws, V l ws) := by
     show ¬ ∃ ws, V l ws
     rw [HLR.out]
     exact yy65 HMM.out (by simp) (by rw [yy46, if_neg (by omega), if_neg (by omega), if_neg (by omega), if_neg (by omega), if_neg (by omega)])
    have hc1 : ¬ c < 128 := by omega
    have hc2 : ¬ c < 192 := by omega
    have hc3 : ¬ c < 224 := by omega
    have hc4 : ¬ c < 240 := by omega
    go_wp2
    go_step3
    rw [yy9, yy7, yy36, Wμ2]
    exact ⟨⟨(E vs).length + 1, _, _, _, Fr.mk ⟨rfl, rfl, rfl, rfl, rfl, rfl, rfl⟩, HN.out, vs, HV.out⟩, by have := HM.out; omega⟩
 case first =>
  intro P0
  have P0' := xh P0; clear P0
  refine ⟨4 * l.length + 1, ?_⟩
  go_wp2
  go_step3
  rename_i K hK
  refine hK _ _ (yy111 ?_ (P0'.out _ _ ⟨[], l, _, _, _, Fr.mk ⟨rfl, rfl, rfl, by rw [E_nil]; rfl, rfl, rfl, rfl⟩, by simp, by rw [E_nil]; rfl, H0.out⟩))
  rw [Wμ0 (s := .string (bstr l)) (sh := .func (.func k) #[] cap) (at_ := 0) (Fr.mk ⟨rfl, rfl, rfl, rfl, rfl, rfl, rfl⟩)]
  omega
end Go.Proofs.YtjpjdkdbgjipnaaDoor
namespace Go.Proofs.YtjpjdkdbgjipnaaDoor
open Go.RowKit Go.Deep Go.Lib
theorem yy243 {P : Program} {c r0 r1 r2 : Code} {a : Act} {w : World} {Q : Exit → Act → World → Prop} (J : Nat → Act → World → Prop) (μ : Nat → Act → Nat)
  (hJ : ∀ l a w, J l a w → l < 3) (h0 : findLabel c 0 = some (Code.skip.seq r0)) (h1 : findLabel c 1 = some (Code.skip.seq r1)) (h2 : findLabel c 2 = some (Code.skip.seq r2))
  (p0 : Pass P r0 J μ Q 0) (p1 : Pass P r1 J μ Q 1) (p2 : Pass P r2 J μ Q 2)
  (first : Pass P r1 J μ Q 1 → ∃ n, c.wp P (down J μ n Q) a w) : (Code.scope c).wp P Q a w := by
 have pass : ∀ l a w, J l a w → ∃ r, findLabel c l = some r ∧ r.wp P (down J μ (μ l a) Q) a w := by
  intro l a w hl
  have := hJ l a w hl
  match l, this with
  | 0, _ => exact ⟨_, h0, yy73 (p0 a w hl)⟩
  | 1, _ => exact ⟨_, h1, yy73 (p1 a w hl)⟩
  | 2, _ => exact ⟨_, h2, yy73 (p2 a w hl)⟩
 obtain ⟨n, hn⟩ := first p1
 intro b k cs
 have key : ∀ n l a w, μ l a = n → J l a w → ∃ rest, findLabel c l = some rest ∧ ∃ e a' w', Q e a' w' ∧ Arrives P (lone (b.at a (.code rest :: .inScope c :: k)) cs w) b k cs e a' w' := by
  intro n
  induction n using Nat.strongRecOn with
  | _ n ih =>
   intro l a w hn hl
   obtain ⟨rest, hf, hp⟩ := pass l a w hl
   refine ⟨rest, hf, ?_⟩
   obtain ⟨e, a₁, w₁, hq, harr⟩ := hp b (.inScope c :: k) cs
   unfold down at hq
   cases e with
   | normal => exact ⟨.normal, a₁, w₁, hq, Steps.trans harr (.one step_inScope)⟩
   | exit id => exact ⟨.exit id, a₁, w₁, hq, fun k' hk => harr k' (by simp [exitTo, hk])⟩
   | goto l' =>
    obtain ⟨hJ', hlt⟩ := hq
    obtain ⟨rest', hf', e₂, a₂, w₂, hq₂, harr₂⟩ := ih _ (by omega) l' a₁ w₁ rfl hJ'
    have hg : gotoIn l' (.inScope c :: k) = some (.code rest' :: .inScope c :: k) := by simp [gotoIn, hf']
    exact ⟨e₂, a₂, w₂, hq₂, .of_steps (harr _ hg) harr₂⟩
   | ret => exact ⟨_, a₁, w₁, hq, harr⟩
   | panic ch => exact ⟨_, a₁, w₁, hq, harr⟩
   | outgrown => exact ⟨_, a₁, w₁, hq, harr⟩
 obtain ⟨e, a₁, w₁, hq, harr⟩ := hn b (.inScope c :: k) cs
 unfold down at hq
 cases e with
 | normal => exact ⟨.normal, a₁, w₁, hq, .head step_scope (Steps.trans harr (.one step_inScope))⟩
 | exit id => exact ⟨.exit id, a₁, w₁, hq, fun k' hk => .head step_scope (harr k' (by simp [exitTo, hk]))⟩
 | goto l' =>
  obtain ⟨hJ', _⟩ := hq
  obtain ⟨rest', hf', e₂, a₂, w₂, hq₂, harr₂⟩ := key _ l' a₁ w₁ rfl hJ'
  have hg : gotoIn l' (.inScope c :: k) = some (.code rest' :: .inScope c :: k) := by simp [gotoIn, hf']
  exact ⟨e₂, a₂, w₂, hq₂, .of_steps (.head step_scope (harr _ hg)) harr₂⟩
 | ret => exact ⟨_, a₁, w₁, hq, .of_steps (.one step_scope) harr⟩
 | panic ch => exact ⟨_, a₁, w₁, hq, .of_steps (.one step_scope) harr⟩
 | outgrown => exact ⟨_, a₁, w₁, hq, .of_steps (.one step_scope) harr⟩
def NFr (a : Act) (L : Value) (g k : Nat) (o : Value) : Prop :=
 a.defers = [] ∧ a.tmps.size = 52 ∧ a.tmps[0]? = some (L) ∧ a.tmps[3]? = some (o) ∧ a.tmps[4]? = some (.pointer (some ⟨g, 0, none⟩)) ∧ a.tmps[5]? = some (.pointer (some ⟨g + 1, 0, none⟩)) ∧ a.tmps[6]? = some (.int .i64 (k : Int))
theorem NFr.out {a : Act} {L : Value} {g k : Nat} {o : Value} (h : NFr a L g k o) : ∃ f : Nat → Value, a = { tmps := #[L, f 1, f 2, o, .pointer (some ⟨g, 0, none⟩), .pointer (some ⟨g + 1, 0, none⟩), .int .i64 (k : Int), f 7, f 8, f 9, f 10, f 11, f 12, f 13, f 14, f 15, f 16, f 17, f 18, f 19, f 20, f 21, f 22, f 23, f 24, f 25, f 26, f 27, f 28, f 29, f 30, f 31, f 32, f 33, f 34, f 35, f 36, f 37, f 38, f 39, f 40, f 41, f 42, f 43, f 44, f 45, f 46, f 47, f 48, f 49, f 50, f 51], defers := [] } := by
 obtain ⟨t, d⟩ := a
 obtain ⟨rfl, hs, h0, h3, h4, h5, h6⟩ := h
 simp only at hs h0 h3 h4 h5 h6
 refine ⟨fun n => (t[n]?).getD undef, ?_⟩
 have e : t = ((List.range 52).map fun i => (t[i]?).getD undef).toArray := by
  apply Array.ext
  ·simp [hs]
  ·intro i h1 h2
   simp [h1]
 have e2 : ((List.range 52).map fun i => (t[i]?).getD undef).toArray = #[(t[0]?).getD undef, (t[1]?).getD undef, (t[2]?).getD undef, (t[3]?).getD undef, (t[4]?).getD undef, (t[5]?).getD undef, (t[6]?).getD undef, (t[7]?).getD undef, (t[8]?).getD undef, (t[9]?).getD undef, (t[10]?).getD undef, (t[11]?).getD undef, (t[12]?).getD undef, (t[13]?).getD undef, (t[14]?).getD undef, (t[15]?).getD undef, (t[16]?).getD undef, (t[17]?).getD undef, (t[18]?).getD undef, (t[19]?).getD undef, (t[20]?).getD undef, (t[21]?).getD undef, (t[22]?).getD undef, (t[23]?).getD undef, (t[24]?).getD undef, (t[25]?).getD undef, (t[26]?).getD undef, (t[27]?).getD undef, (t[28]?).getD undef, (t[29]?).getD undef, (t[30]?).getD undef, (t[31]?).getD undef, (t[32]?).getD undef, (t[33]?).getD undef, (t[34]?).getD undef, (t[35]?).getD undef, (t[36]?).getD undef, (t[37]?).getD undef, (t[38]?).getD undef, (t[39]?).getD undef, (t[40]?).getD undef, (t[41]?).getD undef, (t[42]?).getD undef, (t[43]?).getD undef, (t[44]?).getD undef, (t[45]?).getD undef, (t[46]?).getD undef, (t[47]?).getD undef, (t[48]?).getD undef, (t[49]?).getD undef, (t[50]?).getD undef, (t[51]?).getD undef] := rfl
 simp only [h0, h3, h4, h5, h6, Option.getD_some] at e2
 rw [← e2, ← e]
attribute [irreducible] NFr
theorem NFr.mk {t : Array Value} {L : Value} {g k : Nat} {o : Value} (h : t.size = 52 ∧ t[0]? = some (L) ∧ t[3]? = some (o) ∧ t[4]? = some (.pointer (some ⟨g, 0, none⟩)) ∧ t[5]? = some (.pointer (some ⟨g + 1, 0, none⟩)) ∧ t[6]? = some (.int .i64 (k : Int))) : NFr { tmps := t, defers := [] } L g k o := by
 unfold NFr
 exact ⟨rfl, h⟩
theorem NFr.at6 {a : Act} {L : Value} {g k : Nat} {o : Value} (h : NFr a L g k o) : a.tmps.getD 6 undef = .int .i64 (k : Int) := by
 obtain ⟨f, rfl⟩ := h.out
 rfl
def yy25 (kd n : Int) (t : List Nat) (i : Nat) : Value := if i = 0 then .int .i64 kd else if i = 1 then .int .i64 n else .string (bstr t)
def NJ (W : World) (L : Value) (l : List CompV) : Nat → Act → World → Prop
 | 1, a, w => ∃ k o kd n t, NFr a L W.heap.size k o ∧ k ≤ l.length ∧ NowAt W.heap.size (W.heap.size + 2) (nRun (l.take k)) o w ∧ w.rowIs (W.heap.size + 1) 51 3 (yy25 kd n t) ∧ Below W.heap.size W w
 | 0, a, w => ∃ o, NFr a L W.heap.size l.length o ∧ NowAt W.heap.size (W.heap.size + 2) (nRun l) o w ∧ Below W.heap.size W w
 | 2, a, w => ∃ k o n t, NFr a L W.heap.size (k + 1) o ∧ k < l.length ∧ l[k]? = some ⟨1, n, t⟩ ∧ 0 < n ∧ NowAt W.heap.size (W.heap.size + 2) (nRun (l.take k)) o w ∧ w.rowIs (W.heap.size + 1) 51 3 (yy25 1 n t) ∧ Below W.heap.size W w
 | _, _, _ => False
def Nμ (len : Nat) : Nat → Act → Nat
 | 1, a => 2 * (len - (RowKit.intOf (a.tmps.getD 6 undef)).toNat) + 1
 | 2, a => 2 * (len - (RowKit.intOf (a.tmps.getD 6 undef)).toNat) + 2
 | _, _ => 0
theorem Nμ1 {len : Nat} {a : Act} {L : Value} {g k : Nat} {o : Value} (h : NFr a L g k o) : Nμ len 1 a = 2 * (len - k) + 1 := by
 show 2 * (len - (RowKit.intOf (a.tmps.getD 6 undef)).toNat) + 1 = _
 rw [h.at6]; simp [RowKit.intOf]
theorem Nμ2 {len : Nat} {a : Act} {L : Value} {g k : Nat} {o : Value} (h : NFr a L g k o) : Nμ len 2 a = 2 * (len - k) + 2 := by
 show 2 * (len - (RowKit.intOf (a.tmps.getD 6 undef)).toNat) + 2 = _
 rw [h.at6]; simp [RowKit.intOf]
theorem Nμ0 {len : Nat} {a : Act} : Nμ len 0 a = 0 := rfl
theorem NowAt.other {g B g' : Nat} {s : NS} {o : Value} {w : World} (h : NowAt g B s o w) (hne : g ≠ g') (hlt : g' < B) (i : Nat) (v : Value) : NowAt g B s o (w.setCell ⟨g', i, none⟩ v) := by
 obtain ⟨h1, h2, ⟨A, c, hr, ht⟩, ho⟩ := h
 exact ⟨h1, by simpa [World.setCell] using h2, ⟨A, c, hr.setOther hne v, yy21 ht hlt _ _⟩, yy21 ho hlt _ _⟩
theorem yy554 (l : List Nat) (hb : ∀ x ∈ l, x < 256) : strCells (bstr l) = u8s l := by
 unfold strCells u8s
 rw [yy85, List.map_map]
 refine List.map_congr_left fun x hx => ?_
 have := hb x hx
 simp
 omega
theorem yy316 {w : World} {b : Nat} {k0 n0 : Int} {t0 : List Nat} (h : w.rowIs b 51 3 (yy25 k0 n0 t0)) (kd n : Int) (t : List Nat) :
  (((w.setCell ⟨b, 0, none⟩ (.int .i64 kd)).setCell ⟨b, 1, none⟩ (.int .i64 n)).setCell ⟨b, 2, none⟩ (.string (bstr t))).rowIs b 51 3 (yy25 kd n t) :=
 (((h.set 0 (.int .i64 kd)).set 1 (.int .i64 n)).set 2 (.string (bstr t))).congr fun i hi => by
   rcases (show i = 0 ∨ i = 1 ∨ i = 2 by omega) with rfl | rfl | rfl <;> rfl
theorem NowAt.start (w : World) : NowAt w.heap.size (w.heap.size + 2) nStart (.slice none 0 0) ((w.alloc (.cells #[.int .i64 0, .slice none 0 0, .int .i64 0] 130)).alloc (.cells #[.int .i64 0, .int .i64 0, .string { data := #[] }] 51)) := by
 refine ⟨by omega, by simp, ⟨none, 0, (World.rowIs_alloc w _ _ _ (fun i hi => ?_)).alloc _, World.ownsRow_nil _ _ _ _⟩, World.ownsRow_nil _ _ _ _⟩
 rcases (show i = 0 ∨ i = 1 ∨ i = 2 by simp at hi; omega) with rfl | rfl | rfl <;> rfl
theorem yy660 (w : World) : ((w.alloc (.cells #[.int .i64 0, .slice none 0 0, .int .i64 0] 130)).alloc (.cells #[.int .i64 0, .int .i64 0, .string { data := #[] }] 51)).rowIs (w.heap.size + 1) 51 3 (yy25 0 0 []) := by
 have h := World.rowIs_alloc (w.alloc (.cells #[.int .i64 0, .slice none 0 0, .int .i64 0] 130)) #[.int .i64 0, .int .i64 0, .string { data := #[] }] 51 (yy25 0 0 []) (fun i hi => by
  rcases (show i = 0 ∨ i = 1 ∨ i = 2 by simp at hi; omega) with rfl | rfl | rfl <;> rfl)
 rwa [show (w.alloc (.cells #[.int .i64 0, .slice none 0 0, .int .i64 0] 130)).heap.size = w.heap.size + 1 by simp] at h
set_option maxHeartbeats 8000000 in
set_option maxRecDepth 100000 in
theorem yy317 (A : Option Addr) (c : Nat) (l : List CompV) (hl : l.length ≤ 1073741824) (ht : tlen l ≤ 1099511627776) (hgood : ∀ y ∈ l, y.Good) (w : World) (hc : yy6 w A l) :
  Calls Tryd.prog 81 #[.slice A l.length c] w fun e w' => ∃ A' c', e = .returned (.slice A' (yy31 l).length c') ∧ w'.ownsRow w.heap.size 51 3 (.slice A' (yy31 l).length c') (yy31 l).length ((yy31 l).flatMap yy2) ∧ Below w.heap.size w w' := by
 have HC := xh hc; clear hc
 have HTL := xh ht; clear ht
 have HGD := xh hgood; clear hgood
 have HFIT : Hid (∀ k, (nRun (l.take k)).out.length ≤ 3221225472 ∧ (nRun (l.take k)).text.length ≤ tlen (l.take k) ∧ 0 ≤ (nRun (l.take k)).keep ∧ (nRun (l.take k)).keep ≤ 1099511627776 ∧ 0 ≤ (nRun (l.take k)).gone ∧ (nRun (l.take k)).gone ≤ 1099511627776) := fun k => by
  have h := yy613 (l.take k)
  exact ⟨Nat.le_trans h.out (by rw [List.length_take]; omega), h.text, h.keep0, h.keep1, h.gone0, h.gone1⟩
 obtain ⟨g, HG⟩ : ∃ x, Hid (w.heap.size = x) := ⟨_, rfl⟩
 go_enter Tryd.func81, Tryd.ntmps81
 go_wp2
 refine yy243 (NJ w (.slice A l.length c) l) (Nμ l.length) ?hJ rfl rfl rfl ?p0 ?p1 ?p2 ?first
 case hJ =>
  intro j a w h
  match j, h with
  | 0, _ => omega
  | 1, _ => omega
  | 2, _ => omega
  | (n + 3), h => exact h.elim
 case p0 =>
  rintro a w1 ⟨o, hf, hn, hb⟩
  rw [Nμ0]
  have HN := xh hn; clear hn
  have HB := xh hb; clear hb
  have hfit := HFIT.out l.length
  rw [List.take_length] at hfit
  have GE := xh (yy371 w.heap.size (w.heap.size + 2) (nRun l) o (by omega) (by have := HTL.out; omega) w1 HN.out)
  clear hfit
  rw [HG.out] at hf GE
  obtain ⟨f, rfl⟩ := hf.out
  clear hf
  go_wp2_with fail
  refine GE.out.mono ?_
  rintro e w2 ⟨o2, rfl, hn2, ha2⟩
  have HN2 := xh hn2
  have HA2 := xh ha2
  clear hn2 ha2
  obtain ⟨A2, c2, ho2⟩ := HN2.out.out
  have HO2 := xh ho2; clear ho2
  go_wp2
  rw [yy315]
  go_ret
  refine ⟨A2, c2, ?_, ?_, ?_⟩
  ·rw [HO2.out]; rfl
  ·have := HN2.out.row
   rw [HO2.out] at this
   exact yy34 this (by have := HG.out; omega)
  ·have h := HA2.out.below HB.out (by have := HG.out; omega) (by have := HG.out; omega)
   exact h
 case p2 =>
  rintro a w1 ⟨k, o, n, t, hf, hk, hget, hn0, hn, hr, hb⟩
  rw [Nμ2 hf]
  obtain ⟨m, HM⟩ : ∃ m, Hid (m = 2 * (l.length - (k + 1)) + 2) := ⟨_, rfl⟩
  rw [← HM.out]
  have HB := xh hb; clear hb
  have hfit := HFIT.out k
  have HNX : Hid (nRun (l.take (k + 1)) = nStep (nRun (l.take k)) ⟨1, n, t⟩) := by
   show _ = _
   rw [List.take_succ_eq_append_getElem hk, yy232, (List.getElem?_eq_some_iff.1 hget).2]
  rw [nStep, if_neg (by simp), if_neg (by simp), if_neg (by simp only; omega)] at HNX
  have HFT : Hid ((nRun (l.take k)).text.length ≤ 1099511627776) := by show _ ≤ _; have := yy233 l k; have := HTL.out; omega
  rw [HG.out] at hf hn hr
  obtain ⟨s, HS⟩ : ∃ x, Hid (nRun (l.take k) = x) := ⟨_, rfl⟩
  rw [HS.out] at hn hfit HNX HFT
  obtain ⟨hf1, _, hf3, hf4, hf5, hf6⟩ := hfit
  have HKS := xh (fun w => yy110 s.keep n hf3 hf4 w)
  have HK0 := xh (fun w => yy110 0 n (by omega) (by omega) w)
  have GB := xh (yy473 g (g + 2) s o hf5 w1 hn)
  have GE := xh (yy371 g (g + 2) s o (by omega) HFT.out w1 hn)
  obtain ⟨q, HQ⟩ : ∃ q, Hid (hld s.keep n = q) := ⟨_, xh rfl⟩
  obtain ⟨q0, HQ0⟩ : ∃ q, Hid (hld 0 n = q) := ⟨_, xh rfl⟩
  simp only [HQ.out, HQ0.out] at HNX
  rw [HQ.out] at HKS
  rw [HQ0.out] at HK0
  obtain ⟨A1, c1, z0, z1, z2, y0, y1, y2, ht1, hr1⟩ := hn.read
  have d1 := hr.cell (i := 1) (by omega)
  replace d1 : World.cell? _ ⟨g + 1, 1, none⟩ = some (.int .i64 n) := d1
  have HN := xh hn; have HR := xh hr
  obtain ⟨f, rfl⟩ := hf.out
  clear hf hn hr ht1 hr1 hf1 hf3 hf4 hf6 hn0 hget z1 z2 y1 y2
  by_cases hbare : s.text = [] ∧ s.gone = 0
  ·rw [if_neg (fun h => by rcases h with h | h; exact h hbare.1; omega)] at HNX
   rw [decide_eq_true hbare] at GB
   clear hbare hf5
   go_wp2_with fail
   refine GB.out.mono ?_
   rintro e w2 ⟨rfl, rfl⟩
   go_wp2_with fail
   refine (HKS.out _).mono ?_
   rintro e w2 ⟨rfl, rfl⟩
   go_wp2
   go_step3
   rw [yy7, yy36, Nμ1 (L := .slice A l.length c) (g := g) (k := k + 1) (o := o) (NFr.mk ⟨rfl, rfl, rfl, rfl, rfl, rfl⟩)]
   exact ⟨⟨k + 1, o, 1, n, t, HG.out ▸ NFr.mk ⟨rfl, rfl, rfl, rfl, rfl, rfl⟩, by omega, by rw [HNX.out, HG.out]; exact HN.out.setKeep q, by rw [HG.out]; exact HR.out.setOther (a := ⟨g, 0, none⟩) (by show g + 1 ≠ g; omega) _, HB.out.setCell (by have := HG.out; show _ ≤ g; omega) _⟩, by have := HM.out; omega⟩
  ·rw [if_pos (by rcases Classical.not_and_iff_not_or_not.1 hbare with h | h; exact .inl h; exact .inr (by omega))] at HNX
   rw [decide_eq_false hbare] at GB
   clear hbare hf5
   go_wp2_with fail
   refine GB.out.mono ?_
   rintro e w2 ⟨rfl, rfl⟩
   go_wp2_with fail
   refine GE.out.mono ?_
   rintro e w2 ⟨o2, rfl, hn2, ha2⟩
   have HB2 : Hid (Below w.heap.size w w2) := ha2.below HB.out (by have := HG.out; omega) (by have := HG.out; omega)
   have hr2 := HR.out.of_block (ha2.block (g + 1) (by omega) (by omega))
   obtain ⟨A3, c3, u0, u1, u2, v0, v1, v2, ht3, hr3⟩ := hn2.read
   simp only at u0
   have e1 := hr2.cell (i := 1) (by omega)
   replace e1 : World.cell? _ ⟨g + 1, 1, none⟩ = some (.int .i64 n) := e1
   have HN2 := xh hn2
   have HR2 := xh hr2
   clear hn2 ha2 hr2 ht3 hr3 u1 u2 v1 v2
   go_wp2_with fail
   refine (HK0.out _).mono ?_
   rintro e w3 ⟨rfl, rfl⟩
   go_wp2
   go_step3
   rw [yy7, yy36, Nμ1 (L := .slice A l.length c) (g := g) (k := k + 1) (o := o2) (NFr.mk ⟨rfl, rfl, rfl, rfl, rfl, rfl⟩)]
   exact ⟨⟨k + 1, o2, 1, n, t, HG.out ▸ NFr.mk ⟨rfl, rfl, rfl, rfl, rfl, rfl⟩, by omega, by rw [HNX.out, HG.out]; exact HN2.out.setKeep q0, by rw [HG.out]; exact HR2.out.setOther (a := ⟨g, 0, none⟩) (by show g + 1 ≠ g; omega) _, HB2.out.setCell (by have := HG.out; show _ ≤ g; omega) _⟩, by have := HM.out; omega⟩
 case p1 =>
  rintro a w1 ⟨k, o, kd0, n0, t0, hf, hk, hn, hr, hb⟩
  rw [Nμ1 hf]
  obtain ⟨m, HM⟩ : ∃ m, Hid (m = 2 * (l.length - k) + 1) := ⟨_, rfl⟩
  rw [← HM.out]
  have HB := xh hb; clear hb
  rw [HG.out] at hf hn hr
  obtain ⟨f, rfl⟩ := hf.out
  clear hf
  by_cases hlt : k < l.length
  ·obtain ⟨b, off, rfl, _⟩ := HC.out.form (by omega)
   obtain ⟨x0, x1, x2⟩ := (HC.out.below HB.out).at_ hlt
   have HGET : Hid (l[k]? = some l[k]) := List.getElem?_eq_getElem hlt
   have HNX := xh (show nRun (l.take (k + 1)) = nStep (nRun (l.take k)) l[k] by rw [List.take_succ_eq_append_getElem hlt, yy232])
   have HTG := xh (yy310 hlt)
   have HYG := xh (HGD.out l[k] (List.getElem_mem hlt))
   generalize l[k] = y at x0 x1 x2 HGET HNX HTG HYG
   obtain ⟨kd, n, t⟩ := y
   simp only at x0 x1 x2 HTG
   have hfit := HFIT.out k
   have HFT : Hid ((nRun (l.take k)).text.length + t.length ≤ 1099511627776) := by show _ ≤ _; have := HTG.out; have := HTL.out; omega
   obtain ⟨s, HS⟩ : ∃ x, Hid (nRun (l.take k) = x) := ⟨_, rfl⟩
   rw [HS.out] at hn hfit HNX HFT
   obtain ⟨_, _, hf3, hf4, hf5, hf6⟩ := hfit
   have HKG := xh (fun w => yy110 s.gone n hf5 hf6 w)
   clear hf3 hf4 hf5 hf6
   have HRW := xh (yy316 hr kd n t)
   have p0 := hr.cell (i := 0) (by omega)
   have q0 := hr.frozen 0
   have r1 := hr.set 0 (.int .i64 kd)
   have p1 := r1.cell (i := 1) (by omega)
   have q1 := r1.frozen 1
   have r2 := r1.set 1 (.int .i64 n)
   have p2 := r2.cell (i := 2) (by omega)
   have q2 := r2.frozen 2
   replace p0 : World.cell? _ ⟨g + 1, 0, none⟩ = some (.int .i64 kd0) := p0
   replace p1 : World.cell? _ ⟨g + 1, 1, none⟩ = some (.int .i64 n0) := p1
   replace p2 : World.cell? _ ⟨g + 1, 2, none⟩ = some (.string (bstr t0)) := p2
   have j0 := HRW.out.cell (i := 0) (by omega)
   have j1 := HRW.out.cell (i := 1) (by omega)
   have j2 := HRW.out.cell (i := 2) (by omega)
   replace j0 : World.cell? _ ⟨g + 1, 0, none⟩ = some (.int .i64 kd) := j0
   replace j1 : World.cell? _ ⟨g + 1, 1, none⟩ = some (.int .i64 n) := j1
   replace j2 : World.cell? _ ⟨g + 1, 2, none⟩ = some (.string (bstr t)) := j2
   have hne : g ≠ g + 1 := by omega
   have HN := xh (((hn.other hne (by omega) 0 (.int .i64 kd)).other hne (by omega) 1 (.int .i64 n)).other hne (by omega) 2 (.string (bstr t)))
   have HBW := xh (((HB.out.setCell (p := ⟨g + 1, 0, none⟩) (by have := HG.out; show _ ≤ g + 1; omega) (.int .i64 kd)).setCell (p := ⟨g + 1, 1, none⟩) (by have := HG.out; show _ ≤ g + 1; omega) (.int .i64 n)).setCell (p := ⟨g + 1, 2, none⟩) (by have := HG.out; show _ ≤ g + 1; omega) (.string (bstr t)))
   clear hr hn r1 r2 hne
   obtain ⟨A1, c1, z0, z1, z2, y0, y1, y2, ht1, hr1⟩ := HN.out.read
   have HT1 := xh ht1; have HR1 := xh hr1
   clear ht1 hr1 z0 y0
   have e1 : ((k : Int) == (l.length : Int)) = false := xn (by omega)
   have hkl : k < 1073741824 := by omega
   by_cases h2 : kd = 2
   ·subst h2
    rw [nStep, if_pos rfl] at HNX
    have hsz := bstr_size t
    have HSC := xh (yy554 t HYG.out.2.2.1)
    obtain ⟨i0, hi0, hz0, hz1, hz2⟩ := info_parts u8_info
    have HI0 := xh hi0; clear hi0
    have HZ0 := xh hz0; clear hz0
    have HZ1 := xh hz1; clear hz1
    have HZ2 := xh hz2; clear hz2
    go_wp2_with (at_builtin
                 refine wpList_append_own_string _ rfl (.tmp 22) (.tmp 24) 88 9 rfl (g + 2) 5 i0 Tryd.underlying88 Tryd.underlying9 HI0.out HZ0.out HZ1.out HZ2.out (.slice A1 s.text.length c1) s.text.length (u8s s.text) rfl HT1.out (bstr t) rfl (by have := HFT.out; rw [hsz]; simp only [maxLen]; omega) (by have := HFT.out; rw [hsz]; omega) HN.out.up ?_
                 intro v3 w3 hown3 hgr3 _
                 rw [hsz, HSC.out, ← u8s_append, ← List.length_append] at hown3
                 obtain ⟨A3, k3, rfl⟩ := own_slice hown3
                 have hp3 := HN.out.setText HT1.out hgr3 hown3
                 rw [List.length_append] at hp3
                 have HN3 := xh hp3.1
                 have HA3 := xh hp3.2
                 have hrr := HR1.out.of_block (hgr3.block g HR1.out.lt (fun e => by have := (HT1.out.lt g e.symm).1; omega))
                 have w31 := hrr.cell (i := 1) (by omega)
                 replace w31 : World.cell? _ ⟨g, 1, none⟩ = some (.slice A1 s.text.length c1) := w31
                 have w3f := hrr.frozen 1
                 clear hown3 hgr3 hp3 hrr)
    go_step3
    rw [yy7, yy36, Nμ1 (L := .slice (some ⟨b, off, none⟩) l.length c) (g := g) (k := k + 1) (o := o) (NFr.mk ⟨rfl, rfl, rfl, rfl, rfl, rfl⟩)]
    exact ⟨⟨k + 1, o, 2, n, t, HG.out ▸ NFr.mk ⟨rfl, rfl, rfl, rfl, rfl, rfl⟩, by omega, by rw [HNX.out, HG.out]; exact HN3.out, by rw [HG.out]; exact HRW.out.of_block (HA3.out.block (g + 1) (by omega) (by omega)), HA3.out.below HBW.out (by have := HG.out; omega) (by have := HG.out; omega)⟩, by have := HM.out; omega⟩
   by_cases h3 : kd = 3
   ·subst h3
    rw [nStep, if_neg h2, if_pos rfl] at HNX
    obtain ⟨q, HQ⟩ : ∃ q, Hid (hld s.gone n = q) := ⟨_, xh rfl⟩
    simp only [HQ.out] at HNX
    rw [HQ.out] at HKG
    clear h2
    go_wp2_with fail
    refine (HKG.out _).mono ?_
    rintro e w2 ⟨rfl, rfl⟩
    go_wp2
    go_step3
    rw [yy7, yy36, Nμ1 (L := .slice (some ⟨b, off, none⟩) l.length c) (g := g) (k := k + 1) (o := o) (NFr.mk ⟨rfl, rfl, rfl, rfl, rfl, rfl⟩)]
    exact ⟨⟨k + 1, o, 3, n, t, HG.out ▸ NFr.mk ⟨rfl, rfl, rfl, rfl, rfl, rfl⟩, by omega, by rw [HNX.out, HG.out]; exact HN.out.setGone q, by rw [HG.out]; exact HRW.out.setOther (a := ⟨g, 2, none⟩) (by show g + 1 ≠ g; omega) _, HBW.out.setCell (by have := HG.out; show _ ≤ g; omega) _⟩, by have := HM.out; omega⟩
   have g2 : (kd == 2) = false := xn h2
   have g3 : (kd == 3) = false := xn h3
   by_cases h1 : kd = 1
   ·subst h1
    by_cases hn1 : 0 < n
    ·have hnn := xh hn1
     go_wp2
     go_step3
     rw [yy9, yy7, yy36, Nμ2 (L := .slice (some ⟨b, off, none⟩) l.length c) (g := g) (k := k + 1) (o := o) (NFr.mk ⟨rfl, rfl, rfl, rfl, rfl, rfl⟩)]
     exact ⟨⟨k, o, n, t, HG.out ▸ NFr.mk ⟨rfl, rfl, rfl, rfl, rfl, rfl⟩, hlt, HGET.out, hnn.out, by rw [HS.out, HG.out]; exact HN.out, by rw [HG.out]; exact HRW.out, HBW.out⟩, by have := HM.out; omega⟩
    ·rw [nStep, if_neg h2, if_neg h3, if_pos (.inr (by simp only; omega))] at HNX
     clear h2 h3
     go_wp2
     go_step3
     rw [yy7, yy36, Nμ1 (L := .slice (some ⟨b, off, none⟩) l.length c) (g := g) (k := k + 1) (o := o) (NFr.mk ⟨rfl, rfl, rfl, rfl, rfl, rfl⟩)]
     exact ⟨⟨k + 1, o, 1, n, t, HG.out ▸ NFr.mk ⟨rfl, rfl, rfl, rfl, rfl, rfl⟩, by omega, by rw [HNX.out, HG.out]; exact HN.out, by rw [HG.out]; exact HRW.out, HBW.out⟩, by have := HM.out; omega⟩
   ·rw [nStep, if_neg h2, if_neg h3, if_pos (.inl h1)] at HNX
    have g1 : (kd == 1) = false := xn h1
    clear h1 h2 h3
    go_wp2
    go_step3
    rw [yy7, yy36, Nμ1 (L := .slice (some ⟨b, off, none⟩) l.length c) (g := g) (k := k + 1) (o := o) (NFr.mk ⟨rfl, rfl, rfl, rfl, rfl, rfl⟩)]
    exact ⟨⟨k + 1, o, kd, n, t, HG.out ▸ NFr.mk ⟨rfl, rfl, rfl, rfl, rfl, rfl⟩, by omega, by rw [HNX.out, HG.out]; exact HN.out, by rw [HG.out]; exact HRW.out, HBW.out⟩, by have := HM.out; omega⟩
  ·have hkl : k = l.length := by omega
   subst hkl
   rw [List.take_length] at hn
   have HN := xh hn
   clear hn hr
   have e1 : ((l.length : Int) == (l.length : Int)) = true := beq_self_eq_true _
   go_wp2
   go_step3
   rw [yy7, yy36, Nμ0]
   exact ⟨⟨o, HG.out ▸ NFr.mk ⟨rfl, rfl, rfl, rfl, rfl, rfl⟩, by rw [HG.out]; exact HN.out, HB.out⟩, by have := HM.out; omega⟩
 case first =>
  intro P0
  have P0' := xh P0; clear P0
  refine ⟨2 * l.length + 2, ?_⟩
  go_wp2
  go_step3
  rename_i K hK
  refine hK _ _ (yy111 ?_ (P0'.out _ _ ⟨0, .slice none 0 0, 0, 0, [], NFr.mk ⟨rfl, rfl, rfl, rfl, rfl, rfl⟩, Nat.zero_le _, NowAt.start w, yy660 w, ((Below.refl _ _).alloc (Nat.le_refl _) _).alloc (by simp) _⟩))
  rw [Nμ1 (L := .slice A l.length c) (g := w.heap.size) (k := 0) (o := .slice none 0 0) (NFr.mk ⟨rfl, rfl, rfl, rfl, rfl, rfl⟩)]
  omega
end Go.Proofs.YtjpjdkdbgjipnaaDoor
