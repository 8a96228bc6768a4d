/- The landed effect's Get: the first one of an ID. Condition: what may be looked at. (Merged of 2 texts.) -/
import Derived.Test.YtjpjdkdbgjipnaaGreatDoorU22
import Derived.Test.YtjpjdkdbgjipnaaGreatDoorU42
import Derived.Test.YtjpjdkdbgjipnaaGreatDoorU9
import Derived.Test.YtjpjdkdbgjipnaaGreatDoorU21
import Derived.Deep.CutRange
import Derived.Test.YtjpjdkdbgjipnaaGreatDoorU16
namespace Go.Proofs.YtjpjdkdbgjipnaaGreatDoor
open Go.RowKit Go.Deep
def owS0 : Sched Nat := (.quiet 6 (.one 5 (.one 7 (.quiet 8 (.one 9 .done)))))
def owS1 : Sched Nat := (.one 2 owS0)
def owS : Sched Nat := (.quiet 0 (.quiet 3 (.two 1 (.two 2 (.one 4 owS0) 4 owS1) 4 (.one 1 owS1))))
theorem yy221 {w : World} {base : Nat} {e : TypeId} {size : Nat} {A : Option Addr} {n c : Nat} {xs : List Value} (h : w.ownsRow base e size (.slice A n c) n xs) : n ≤ c ∧ c ≤ maxLen := by
 rcases h.2 with ⟨h1, h2⟩ | ⟨g, cap, cur, h1, _, _, h2, h3, _⟩
 ·injection h1 with _ _ h1
  omega
 ·injection h1 with _ _ h1
  omega
set_option maxHeartbeats 8000000 in
set_option maxRecDepth 100000 in
theorem yy93 (x : OneV) (hx : x.Good) (hk : KeyH x.k) (w : World) (hA : yy8 w x.opsA x.k.ops) :
  Calls Tryz.prog 38 #[.agg (yy5 x).toArray] w fun e w' => (∃ A2 c2, e = .returned (.agg (yy5 ⟨x.k, A2, c2⟩).toArray) ∧ x.k.ops.length ≤ c2 ∧ c2 ≤ maxLen ∧ w'.ownsRow w.heap.size 60 3 (.slice A2 x.k.ops.length c2) x.k.ops.length (x.k.ops.flatMap yy2)) ∧ Below w.heap.size w w' := by
 have hlen := hk.1.len
 have htx : ∀ y ∈ x.k.ops, y.text.length ≤ 1099511627776 := fun y hy => by have := yy336 hy; have := hk.1.text; omega
 have hnl := hk.2
 have HGOOD := xh hx
 have GO := xh (fun (W : World) (h : Below w.heap.size w W) => yy342 x.opsA x.opsC x.k.ops (by omega) htx W (hA.below h))
 have GC := xh (fun W => yy66 (bstr x.k.name) W (by rw [bstr_size]; omega))
 clear hx hk hA hlen htx hnl
 obtain ⟨⟨xi, xo, x2, x3, x4, x5, xp, xn⟩, xA, xC⟩ := x
 unfold yy5
 simp only at GO GC
 obtain ⟨g, hg⟩ : ∃ g, g = w.heap.size := ⟨_, rfl⟩
 have HR1 := xh ((yy24 w 63 (.int .i64 xi) (.slice xA xo.length xC) (.bool x2) (.bool x3) (.bool x4) (.bool x5) (.int .i64 xp) (.string (bstr xn))).alloc (Obj.cells #[.int .i64 0, .slice none 0 0, .bool false, .bool false, .bool false, .bool false, .int .i64 0, .string { data := #[] }] 63))
 have HR2 := xh (yy24 (w.alloc (.cells #[.int .i64 xi, .slice xA xo.length xC, .bool x2, .bool x3, .bool x4, .bool x5, .int .i64 xp, .string (bstr xn)] 63)) 63 (.int .i64 0) (.slice none 0 0) (.bool false) (.bool false) (.bool false) (.bool false) (.int .i64 0) (.string { data := #[] }))
 rw [World.size_alloc, ← hg] at HR2
 rw [← hg] at HR1
 have HB1 : Hid (Below g w ((w.alloc (.cells #[.int .i64 xi, .slice xA xo.length xC, .bool x2, .bool x3, .bool x4, .bool x5, .int .i64 xp, .string (bstr xn)] 63)).alloc (.cells #[.int .i64 0, .slice none 0 0, .bool false, .bool false, .bool false, .bool false, .int .i64 0, .string { data := #[] }] 63))) := xh (by rw [hg]; exact ((Below.refl _ _).alloc (Nat.le_refl _) _).alloc (by simp) _)
 have HG := xh hg
 clear hg
 go_enter Tryz.func38, Tryz.ntmps38
 go_upto_region 1 with fail
 rw [← HG.out]
 obtain ⟨W0, HW0⟩ : ∃ x, Hid (((w.alloc (.cells #[.int .i64 xi, .slice xA xo.length xC, .bool x2, .bool x3, .bool x4, .bool x5, .int .i64 xp, .string (bstr xn)] 63)).alloc (.cells #[.int .i64 0, .slice none 0 0, .bool false, .bool false, .bool false, .bool false, .int .i64 0, .string { data := #[] }] 63)) = x) := ⟨_, xh rfl⟩
 rw [HW0.out] at HR1 HR2 HB1 ⊢
 clear HW0
 refine Sched.yy590 owS (by kernel_rfl) (by kernel_rfl) (fun _ _ d _ _ h => by cases d <;> exact h) ?_
 replace HR1 : Hid (World.rowIs _ g 63 8 (eightV (.int .i64 xi) (.slice xA xo.length xC) (.bool x2) (.bool x3) (.bool x4) (.bool x5) (.int .i64 xp) (.string (bstr xn)))) := xh HR1.out.drew
 replace HR2 := xh HR2.out.drew
 replace HB1 := xh HB1.out.drew
 generalize World.drew _ = wd at HR1 HR2 HB1 ⊢
 simp only [owS, Sched.picked, List.getElem?_cons_succ, List.getElem?_cons_zero, Option.getD_some]
 repeat (first | (refine Sched.yy720 (by rfl) (fun K hK => ?_); go_big_quiet_op; refine hK _ ?_; clear hK K) | (refine Sched.yy504 (by rfl) ?_; simp only [Act.put, xsa, xsz, xss]))
 refine Sched.walkF_two ?_ ?_
 ·skip
  have hld := (yy9 HR1.out).2.2.2.2.2.2.2
  refine Sched.walkF_one (by rfl) (fun K hK => ?_)
  go_simp
  refine hK _ _ ?_
  clear hK K hld
  repeat (first | (refine Sched.yy720 (by rfl) (fun K hK => ?_); go_big_quiet_op; refine hK _ ?_; clear hK K) | (refine Sched.yy504 (by rfl) ?_; simp only [Act.put, xsa, xsz, xss]))
  refine Sched.walkF_two ?_ ?_
  ·skip
   refine Sched.walkF_one (by rfl) (fun K hK => ?_)
   go_simp
   refine (GC.out _).mono ?_
   rintro e v1 ⟨rfl, hb⟩
   refine hK _ _ ?_
   clear hK K
   replace HR1 := xh (HR1.out.of_block (hb.block _ HR1.out.lt))
   replace HR2 := xh (HR2.out.of_block (hb.block _ HR2.out.lt))
   replace HB1 := xh (HB1.out.trans (hb.mono (Nat.le_trans (by rw [HG.out]; exact Nat.le_refl _) HB1.out.size)))
   clear hb
   repeat (first | (refine Sched.yy720 (by rfl) (fun K hK => ?_); go_big_quiet_op; refine hK _ ?_; clear hK K) | (refine Sched.yy504 (by rfl) ?_; simp only [Act.put, xsa, xsz, xss]))
   have hld := (yy9 HR1.out).2.1
   refine Sched.walkF_one (by rfl) (fun K hK => ?_)
   go_simp
   refine hK _ _ ?_
   clear hK K hld
   repeat (first | (refine Sched.yy720 (by rfl) (fun K hK => ?_); go_big_quiet_op; refine hK _ ?_; clear hK K) | (refine Sched.yy504 (by rfl) ?_; simp only [Act.put, xsa, xsz, xss]))
   simp only [owS0, Sched.picked, List.getElem?_cons_succ, List.getElem?_cons_zero, Option.getD_some]
   repeat (first | (refine Sched.yy720 (by rfl) (fun K hK => ?_); go_big_quiet_op; refine hK _ ?_; clear hK K) | (refine Sched.yy504 (by rfl) ?_; simp only [Act.put, xsa, xsz, xss]))
   refine Sched.walkF_one (by rfl) (fun K hK => ?_)
   go_simp
   refine (GO.out _ (by rw [← HG.out]; exact HB1.out)).mono ?_
   rintro e v2 ⟨⟨A2, c2, rfl, hown⟩, hb⟩
   refine hK _ _ ?_
   clear hK K
   have hgs := HR1.out.lt
   have hgs2 := HR2.out.lt
   replace HR1 := xh (HR1.out.of_block (hb.block _ hgs))
   replace HR2 := xh (HR2.out.of_block (hb.block _ hgs2))
   replace HB1 := xh (HB1.out.trans (hb.mono (Nat.le_of_lt hgs)))
   have HOWN := xh (yy36 hown (base' := g + 2) (by omega))
   clear hb hown hgs hgs2
   repeat (first | (refine Sched.yy720 (by rfl) (fun K hK => ?_); go_big_quiet_op; refine hK _ ?_; clear hK K) | (refine Sched.yy504 (by rfl) ?_; simp only [Act.put, xsa, xsz, xss]))
   have hc7 := HR1.out.cell (i := 7) (by omega)
   have hf7 := HR1.out.frozen 7
   refine Sched.walkF_one (by rfl) (fun K hK => ?_)
   go_simp
   refine hK _ _ ?_
   clear hK K hc7 hf7
   replace HR1 := xh (HR1.out.set 7 (.string (bstr xn)))
   replace HR2 := xh (HR2.out.setOther (a := ⟨g, 7, none⟩) (by show g + 1 ≠ g; omega) (.string (bstr xn)))
   replace HB1 := xh (HB1.out.setCell (p := ⟨g, 7, none⟩) (Nat.le_refl g) (.string (bstr xn)))
   replace HOWN := xh (ownsRow_setCell_below (a := ⟨g, 7, none⟩) HOWN.out (by show g < g + 2; omega) (.string (bstr xn)))
   repeat (first | (refine Sched.yy720 (by rfl) (fun K hK => ?_); go_big_quiet_op; refine hK _ ?_; clear hK K) | (refine Sched.yy504 (by rfl) ?_; simp only [Act.put, xsa, xsz, xss]))
   have hc1 := HR1.out.cell (i := 1) (by omega)
   have hf1 := HR1.out.frozen 1
   refine Sched.walkF_one (by rfl) (fun K hK => ?_)
   go_simp
   refine hK _ _ ?_
   clear hK K hc1 hf1
   replace HR1 := xh (HR1.out.set 1 (.slice A2 xo.length c2))
   replace HR2 := xh (HR2.out.setOther (a := ⟨g, 1, none⟩) (by show g + 1 ≠ g; omega) (.slice A2 xo.length c2))
   replace HB1 := xh (HB1.out.setCell (p := ⟨g, 1, none⟩) (Nat.le_refl g) (.slice A2 xo.length c2))
   replace HOWN := xh (ownsRow_setCell_below (a := ⟨g, 1, none⟩) HOWN.out (by show g < g + 2; omega) (.slice A2 xo.length c2))
   skip
   generalize World.setCell _ _ _ = v6 at HR1 HR2 HB1 HOWN ⊢
   refine Sched.yy734 ?_
   have hrow : World.rowIs v6 g 63 8 (eightV (.int .i64 xi) (.slice A2 xo.length c2) (.bool x2) (.bool x3) (.bool x4) (.bool x5) (.int .i64 xp) (.string (bstr xn))) := HR1.out.congr fun i hi => by rcases (show i = 0 ∨ i = 1 ∨ i = 2 ∨ i = 3 ∨ i = 4 ∨ i = 5 ∨ i = 6 ∨ i = 7 by omega) with rfl | rfl | rfl | rfl | rfl | rfl | rfl | rfl <;> rfl
   obtain ⟨z0, z1, z2, z3, z4, z5, z6, z7⟩ := yy9 hrow
   obtain ⟨⟨a0, f0⟩, ⟨a1, f1⟩, ⟨a2, f2⟩, ⟨a3, f3⟩, ⟨a4, f4⟩, ⟨a5, f5⟩, ⟨a6, f6⟩, ⟨a7, f7⟩, hres⟩ := yy33 HR2.out (.int .i64 xi) (.slice A2 xo.length c2) (.bool x2) (.bool x3) (.bool x4) (.bool x5) (.int .i64 xp) (.string (bstr xn))
   have HRES := xh (yy71 hres)
   clear hrow hres
   go_wp2
   refine bodyPost_ret (results_cell_row rfl _ _ (g + 1) 63 #[.int .i64 xi, .slice A2 xo.length c2, .bool x2, .bool x3, .bool x4, .bool x5, .int .i64 xp, .string (bstr xn)] (0, 0) _ rfl HRES.out Tryz.underlying63 rfl (by kernel_rfl)) rfl ?_
   have hroom := yy221 HOWN.out
   refine ⟨⟨A2, c2, rfl, hroom.1, hroom.2, ?_⟩, ?_⟩
   ·exact yy36 (ownsRow_setCell_below (a := ⟨g + 1, 7, none⟩) (ownsRow_setCell_below (a := ⟨g + 1, 6, none⟩) (ownsRow_setCell_below (a := ⟨g + 1, 5, none⟩) (ownsRow_setCell_below (a := ⟨g + 1, 4, none⟩) (ownsRow_setCell_below (a := ⟨g + 1, 3, none⟩) (ownsRow_setCell_below (a := ⟨g + 1, 2, none⟩) (ownsRow_setCell_below (a := ⟨g + 1, 1, none⟩) (ownsRow_setCell_below (a := ⟨g + 1, 0, none⟩) HOWN.out (by show g + 1 < g + 2; omega) _) (by show g + 1 < g + 2; omega) _) (by show g + 1 < g + 2; omega) _) (by show g + 1 < g + 2; omega) _) (by show g + 1 < g + 2; omega) _) (by show g + 1 < g + 2; omega) _) (by show g + 1 < g + 2; omega) _) (by show g + 1 < g + 2; omega) _) (by rw [← HG.out]; omega)
   ·rw [← HG.out]
    exact ((((((((HB1.out).setCell (p := ⟨g + 1, 0, none⟩) (Nat.le_succ g) _).setCell (p := ⟨g + 1, 1, none⟩) (Nat.le_succ g) _).setCell (p := ⟨g + 1, 2, none⟩) (Nat.le_succ g) _).setCell (p := ⟨g + 1, 3, none⟩) (Nat.le_succ g) _).setCell (p := ⟨g + 1, 4, none⟩) (Nat.le_succ g) _).setCell (p := ⟨g + 1, 5, none⟩) (Nat.le_succ g) _).setCell (p := ⟨g + 1, 6, none⟩) (Nat.le_succ g) _).setCell (p := ⟨g + 1, 7, none⟩) (Nat.le_succ g) _
  ·skip
   have hld := (yy9 HR1.out).2.1
   refine Sched.walkF_one (by rfl) (fun K hK => ?_)
   go_simp
   refine hK _ _ ?_
   clear hK K hld
   repeat (first | (refine Sched.yy720 (by rfl) (fun K hK => ?_); go_big_quiet_op; refine hK _ ?_; clear hK K) | (refine Sched.yy504 (by rfl) ?_; simp only [Act.put, xsa, xsz, xss]))
   simp only [owS1, Sched.picked, List.getElem?_cons_succ, List.getElem?_cons_zero, Option.getD_some]
   refine Sched.walkF_one (by rfl) (fun K hK => ?_)
   go_simp
   refine (GC.out _).mono ?_
   rintro e v1 ⟨rfl, hb⟩
   refine hK _ _ ?_
   clear hK K
   replace HR1 := xh (HR1.out.of_block (hb.block _ HR1.out.lt))
   replace HR2 := xh (HR2.out.of_block (hb.block _ HR2.out.lt))
   replace HB1 := xh (HB1.out.trans (hb.mono (Nat.le_trans (by rw [HG.out]; exact Nat.le_refl _) HB1.out.size)))
   clear hb
   repeat (first | (refine Sched.yy720 (by rfl) (fun K hK => ?_); go_big_quiet_op; refine hK _ ?_; clear hK K) | (refine Sched.yy504 (by rfl) ?_; simp only [Act.put, xsa, xsz, xss]))
   simp only [owS0, Sched.picked, List.getElem?_cons_succ, List.getElem?_cons_zero, Option.getD_some]
   repeat (first | (refine Sched.yy720 (by rfl) (fun K hK => ?_); go_big_quiet_op; refine hK _ ?_; clear hK K) | (refine Sched.yy504 (by rfl) ?_; simp only [Act.put, xsa, xsz, xss]))
   refine Sched.walkF_one (by rfl) (fun K hK => ?_)
   go_simp
   refine (GO.out _ (by rw [← HG.out]; exact HB1.out)).mono ?_
   rintro e v2 ⟨⟨A2, c2, rfl, hown⟩, hb⟩
   refine hK _ _ ?_
   clear hK K
   have hgs := HR1.out.lt
   have hgs2 := HR2.out.lt
   replace HR1 := xh (HR1.out.of_block (hb.block _ hgs))
   replace HR2 := xh (HR2.out.of_block (hb.block _ hgs2))
   replace HB1 := xh (HB1.out.trans (hb.mono (Nat.le_of_lt hgs)))
   have HOWN := xh (yy36 hown (base' := g + 2) (by omega))
   clear hb hown hgs hgs2
   repeat (first | (refine Sched.yy720 (by rfl) (fun K hK => ?_); go_big_quiet_op; refine hK _ ?_; clear hK K) | (refine Sched.yy504 (by rfl) ?_; simp only [Act.put, xsa, xsz, xss]))
   have hc7 := HR1.out.cell (i := 7) (by omega)
   have hf7 := HR1.out.frozen 7
   refine Sched.walkF_one (by rfl) (fun K hK => ?_)
   go_simp
   refine hK _ _ ?_
   clear hK K hc7 hf7
   replace HR1 := xh (HR1.out.set 7 (.string (bstr xn)))
   replace HR2 := xh (HR2.out.setOther (a := ⟨g, 7, none⟩) (by show g + 1 ≠ g; omega) (.string (bstr xn)))
   replace HB1 := xh (HB1.out.setCell (p := ⟨g, 7, none⟩) (Nat.le_refl g) (.string (bstr xn)))
   replace HOWN := xh (ownsRow_setCell_below (a := ⟨g, 7, none⟩) HOWN.out (by show g < g + 2; omega) (.string (bstr xn)))
   repeat (first | (refine Sched.yy720 (by rfl) (fun K hK => ?_); go_big_quiet_op; refine hK _ ?_; clear hK K) | (refine Sched.yy504 (by rfl) ?_; simp only [Act.put, xsa, xsz, xss]))
   have hc1 := HR1.out.cell (i := 1) (by omega)
   have hf1 := HR1.out.frozen 1
   refine Sched.walkF_one (by rfl) (fun K hK => ?_)
   go_simp
   refine hK _ _ ?_
   clear hK K hc1 hf1
   replace HR1 := xh (HR1.out.set 1 (.slice A2 xo.length c2))
   replace HR2 := xh (HR2.out.setOther (a := ⟨g, 1, none⟩) (by show g + 1 ≠ g; omega) (.slice A2 xo.length c2))
   replace HB1 := xh (HB1.out.setCell (p := ⟨g, 1, none⟩) (Nat.le_refl g) (.slice A2 xo.length c2))
   replace HOWN := xh (ownsRow_setCell_below (a := ⟨g, 1, none⟩) HOWN.out (by show g < g + 2; omega) (.slice A2 xo.length c2))
   skip
   generalize World.setCell _ _ _ = v6 at HR1 HR2 HB1 HOWN ⊢
   refine Sched.yy734 ?_
   have hrow : World.rowIs v6 g 63 8 (eightV (.int .i64 xi) (.slice A2 xo.length c2) (.bool x2) (.bool x3) (.bool x4) (.bool x5) (.int .i64 xp) (.string (bstr xn))) := HR1.out.congr fun i hi => by rcases (show i = 0 ∨ i = 1 ∨ i = 2 ∨ i = 3 ∨ i = 4 ∨ i = 5 ∨ i = 6 ∨ i = 7 by omega) with rfl | rfl | rfl | rfl | rfl | rfl | rfl | rfl <;> rfl
   obtain ⟨z0, z1, z2, z3, z4, z5, z6, z7⟩ := yy9 hrow
   obtain ⟨⟨a0, f0⟩, ⟨a1, f1⟩, ⟨a2, f2⟩, ⟨a3, f3⟩, ⟨a4, f4⟩, ⟨a5, f5⟩, ⟨a6, f6⟩, ⟨a7, f7⟩, hres⟩ := yy33 HR2.out (.int .i64 xi) (.slice A2 xo.length c2) (.bool x2) (.bool x3) (.bool x4) (.bool x5) (.int .i64 xp) (.string (bstr xn))
   have HRES := xh (yy71 hres)
   clear hrow hres
   go_wp2
   refine bodyPost_ret (results_cell_row rfl _ _ (g + 1) 63 #[.int .i64 xi, .slice A2 xo.length c2, .bool x2, .bool x3, .bool x4, .bool x5, .int .i64 xp, .string (bstr xn)] (0, 0) _ rfl HRES.out Tryz.underlying63 rfl (by kernel_rfl)) rfl ?_
   have hroom := yy221 HOWN.out
   refine ⟨⟨A2, c2, rfl, hroom.1, hroom.2, ?_⟩, ?_⟩
   ·exact yy36 (ownsRow_setCell_below (a := ⟨g + 1, 7, none⟩) (ownsRow_setCell_below (a := ⟨g + 1, 6, none⟩) (ownsRow_setCell_below (a := ⟨g + 1, 5, none⟩) (ownsRow_setCell_below (a := ⟨g + 1, 4, none⟩) (ownsRow_setCell_below (a := ⟨g + 1, 3, none⟩) (ownsRow_setCell_below (a := ⟨g + 1, 2, none⟩) (ownsRow_setCell_below (a := ⟨g + 1, 1, none⟩) (ownsRow_setCell_below (a := ⟨g + 1, 0, none⟩) HOWN.out (by show g + 1 < g + 2; omega) _) (by show g + 1 < g + 2; omega) _) (by show g + 1 < g + 2; omega) _) (by show g + 1 < g + 2; omega) _) (by show g + 1 < g + 2; omega) _) (by show g + 1 < g + 2; omega) _) (by show g + 1 < g + 2; omega) _) (by show g + 1 < g + 2; omega) _) (by rw [← HG.out]; omega)
   ·rw [← HG.out]
    exact ((((((((HB1.out).setCell (p := ⟨g + 1, 0, none⟩) (Nat.le_succ g) _).setCell (p := ⟨g + 1, 1, none⟩) (Nat.le_succ g) _).setCell (p := ⟨g + 1, 2, none⟩) (Nat.le_succ g) _).setCell (p := ⟨g + 1, 3, none⟩) (Nat.le_succ g) _).setCell (p := ⟨g + 1, 4, none⟩) (Nat.le_succ g) _).setCell (p := ⟨g + 1, 5, none⟩) (Nat.le_succ g) _).setCell (p := ⟨g + 1, 6, none⟩) (Nat.le_succ g) _).setCell (p := ⟨g + 1, 7, none⟩) (Nat.le_succ g) _
 ·skip
  have hld := (yy9 HR1.out).2.1
  refine Sched.walkF_one (by rfl) (fun K hK => ?_)
  go_simp
  refine hK _ _ ?_
  clear hK K hld
  repeat (first | (refine Sched.yy720 (by rfl) (fun K hK => ?_); go_big_quiet_op; refine hK _ ?_; clear hK K) | (refine Sched.yy504 (by rfl) ?_; simp only [Act.put, xsa, xsz, xss]))
  have hld := (yy9 HR1.out).2.2.2.2.2.2.2
  refine Sched.walkF_one (by rfl) (fun K hK => ?_)
  go_simp
  refine hK _ _ ?_
  clear hK K hld
  repeat (first | (refine Sched.yy720 (by rfl) (fun K hK => ?_); go_big_quiet_op; refine hK _ ?_; clear hK K) | (refine Sched.yy504 (by rfl) ?_; simp only [Act.put, xsa, xsz, xss]))
  simp only [owS1, Sched.picked, List.getElem?_cons_succ, List.getElem?_cons_zero, Option.getD_some]
  refine Sched.walkF_one (by rfl) (fun K hK => ?_)
  go_simp
  refine (GC.out _).mono ?_
  rintro e v1 ⟨rfl, hb⟩
  refine hK _ _ ?_
  clear hK K
  replace HR1 := xh (HR1.out.of_block (hb.block _ HR1.out.lt))
  replace HR2 := xh (HR2.out.of_block (hb.block _ HR2.out.lt))
  replace HB1 := xh (HB1.out.trans (hb.mono (Nat.le_trans (by rw [HG.out]; exact Nat.le_refl _) HB1.out.size)))
  clear hb
  repeat (first | (refine Sched.yy720 (by rfl) (fun K hK => ?_); go_big_quiet_op; refine hK _ ?_; clear hK K) | (refine Sched.yy504 (by rfl) ?_; simp only [Act.put, xsa, xsz, xss]))
  simp only [owS0, Sched.picked, List.getElem?_cons_succ, List.getElem?_cons_zero, Option.getD_some]
  repeat (first | (refine Sched.yy720 (by rfl) (fun K hK => ?_); go_big_quiet_op; refine hK _ ?_; clear hK K) | (refine Sched.yy504 (by rfl) ?_; simp only [Act.put, xsa, xsz, xss]))
  refine Sched.walkF_one (by rfl) (fun K hK => ?_)
  go_simp
  refine (GO.out _ (by rw [← HG.out]; exact HB1.out)).mono ?_
  rintro e v2 ⟨⟨A2, c2, rfl, hown⟩, hb⟩
  refine hK _ _ ?_
  clear hK K
  have hgs := HR1.out.lt
  have hgs2 := HR2.out.lt
  replace HR1 := xh (HR1.out.of_block (hb.block _ hgs))
  replace HR2 := xh (HR2.out.of_block (hb.block _ hgs2))
  replace HB1 := xh (HB1.out.trans (hb.mono (Nat.le_of_lt hgs)))
  have HOWN := xh (yy36 hown (base' := g + 2) (by omega))
  clear hb hown hgs hgs2
  repeat (first | (refine Sched.yy720 (by rfl) (fun K hK => ?_); go_big_quiet_op; refine hK _ ?_; clear hK K) | (refine Sched.yy504 (by rfl) ?_; simp only [Act.put, xsa, xsz, xss]))
  have hc7 := HR1.out.cell (i := 7) (by omega)
  have hf7 := HR1.out.frozen 7
  refine Sched.walkF_one (by rfl) (fun K hK => ?_)
  go_simp
  refine hK _ _ ?_
  clear hK K hc7 hf7
  replace HR1 := xh (HR1.out.set 7 (.string (bstr xn)))
  replace HR2 := xh (HR2.out.setOther (a := ⟨g, 7, none⟩) (by show g + 1 ≠ g; omega) (.string (bstr xn)))
  replace HB1 := xh (HB1.out.setCell (p := ⟨g, 7, none⟩) (Nat.le_refl g) (.string (bstr xn)))
  replace HOWN := xh (ownsRow_setCell_below (a := ⟨g, 7, none⟩) HOWN.out (by show g < g + 2; omega) (.string (bstr xn)))
  repeat (first | (refine Sched.yy720 (by rfl) (fun K hK => ?_); go_big_quiet_op; refine hK _ ?_; clear hK K) | (refine Sched.yy504 (by rfl) ?_; simp only [Act.put, xsa, xsz, xss]))
  have hc1 := HR1.out.cell (i := 1) (by omega)
  have hf1 := HR1.out.frozen 1
  refine Sched.walkF_one (by rfl) (fun K hK => ?_)
  go_simp
  refine hK _ _ ?_
  clear hK K hc1 hf1
  replace HR1 := xh (HR1.out.set 1 (.slice A2 xo.length c2))
  replace HR2 := xh (HR2.out.setOther (a := ⟨g, 1, none⟩) (by show g + 1 ≠ g; omega) (.slice A2 xo.length c2))
  replace HB1 := xh (HB1.out.setCell (p := ⟨g, 1, none⟩) (Nat.le_refl g) (.slice A2 xo.length c2))
  replace HOWN := xh (ownsRow_setCell_below (a := ⟨g, 1, none⟩) HOWN.out (by show g < g + 2; omega) (.slice A2 xo.length c2))
  skip
  generalize World.setCell _ _ _ = v6 at HR1 HR2 HB1 HOWN ⊢
  refine Sched.yy734 ?_
  have hrow : World.rowIs v6 g 63 8 (eightV (.int .i64 xi) (.slice A2 xo.length c2) (.bool x2) (.bool x3) (.bool x4) (.bool x5) (.int .i64 xp) (.string (bstr xn))) := HR1.out.congr fun i hi => by rcases (show i = 0 ∨ i = 1 ∨ i = 2 ∨ i = 3 ∨ i = 4 ∨ i = 5 ∨ i = 6 ∨ i = 7 by omega) with rfl | rfl | rfl | rfl | rfl | rfl | rfl | rfl <;> rfl
  obtain ⟨z0, z1, z2, z3, z4, z5, z6, z7⟩ := yy9 hrow
  obtain ⟨⟨a0, f0⟩, ⟨a1, f1⟩, ⟨a2, f2⟩, ⟨a3, f3⟩, ⟨a4, f4⟩, ⟨a5, f5⟩, ⟨a6, f6⟩, ⟨a7, f7⟩, hres⟩ := yy33 HR2.out (.int .i64 xi) (.slice A2 xo.length c2) (.bool x2) (.bool x3) (.bool x4) (.bool x5) (.int .i64 xp) (.string (bstr xn))
  have HRES := xh (yy71 hres)
  clear hrow hres
  go_wp2
  refine bodyPost_ret (results_cell_row rfl _ _ (g + 1) 63 #[.int .i64 xi, .slice A2 xo.length c2, .bool x2, .bool x3, .bool x4, .bool x5, .int .i64 xp, .string (bstr xn)] (0, 0) _ rfl HRES.out Tryz.underlying63 rfl (by kernel_rfl)) rfl ?_
  have hroom := yy221 HOWN.out
  refine ⟨⟨A2, c2, rfl, hroom.1, hroom.2, ?_⟩, ?_⟩
  ·exact yy36 (ownsRow_setCell_below (a := ⟨g + 1, 7, none⟩) (ownsRow_setCell_below (a := ⟨g + 1, 6, none⟩) (ownsRow_setCell_below (a := ⟨g + 1, 5, none⟩) (ownsRow_setCell_below (a := ⟨g + 1, 4, none⟩) (ownsRow_setCell_below (a := ⟨g + 1, 3, none⟩) (ownsRow_setCell_below (a := ⟨g + 1, 2, none⟩) (ownsRow_setCell_below (a := ⟨g + 1, 1, none⟩) (ownsRow_setCell_below (a := ⟨g + 1, 0, none⟩) HOWN.out (by show g + 1 < g + 2; omega) _) (by show g + 1 < g + 2; omega) _) (by show g + 1 < g + 2; omega) _) (by show g + 1 < g + 2; omega) _) (by show g + 1 < g + 2; omega) _) (by show g + 1 < g + 2; omega) _) (by show g + 1 < g + 2; omega) _) (by show g + 1 < g + 2; omega) _) (by rw [← HG.out]; omega)
  ·rw [← HG.out]
   exact ((((((((HB1.out).setCell (p := ⟨g + 1, 0, none⟩) (Nat.le_succ g) _).setCell (p := ⟨g + 1, 1, none⟩) (Nat.le_succ g) _).setCell (p := ⟨g + 1, 2, none⟩) (Nat.le_succ g) _).setCell (p := ⟨g + 1, 3, none⟩) (Nat.le_succ g) _).setCell (p := ⟨g + 1, 4, none⟩) (Nat.le_succ g) _).setCell (p := ⟨g + 1, 5, none⟩) (Nat.le_succ g) _).setCell (p := ⟨g + 1, 6, none⟩) (Nat.le_succ g) _).setCell (p := ⟨g + 1, 7, none⟩) (Nat.le_succ g) _
def getK (ks : List OneK) (id : Int) : Option OneK := ks.find? fun k => decide (k.id = id)
def GetRes (w' : World) (r : Option OneK) (e : Ending) : Prop :=
 ∃ (y : OneV) (b : Bool), e = .returned (.tuple #[.agg (yy5 y).toArray, .bool b]) ∧ yy8 w' y.opsA y.k.ops ∧ y.Good ∧ ((∃ k, r = some k ∧ y.k = k ∧ b = true) ∨ (r = none ∧ y.k = oneZ 0 ∧ b = false))
theorem yy602 {l : List OneV} {id : Int} {k : Nat} (h : k < l.length) (hb : ∀ y ∈ l.take k, y.k.id ≠ id) (hy : l[k].k.id = id) : getK (l.map (·.k)) id = some l[k].k := by
 unfold getK
 have e : l = l.take k ++ l[k] :: l.drop (k + 1) := by rw [List.getElem_cons_drop, List.take_append_drop]
 generalize l[k] = y at e hy ⊢
 rw [e, List.map_append, List.find?_append]
 have h1 : ((l.take k).map (·.k)).find? (fun q => decide (q.id = id)) = none := List.find?_eq_none.2 fun q hq => by
  obtain ⟨y, hy1, rfl⟩ := List.mem_map.1 hq
  simpa using hb y hy1
 rw [h1, List.map_cons, List.find?_cons, decide_eq_true hy]
 rfl
theorem yy530 {l : List OneV} {id : Int} (hb : ∀ y ∈ l, y.k.id ≠ id) : getK (l.map (·.k)) id = none := by
 unfold getK
 refine List.find?_eq_none.2 fun q hq => ?_
 obtain ⟨y, hy1, rfl⟩ := List.mem_map.1 hq
 simpa using hb y hy1
theorem yy690 : (⟨oneZ 0, none, 0⟩ : OneV).Good := ⟨(by show Fit64 0; unfold Fit64; decide), (by show Fit64 0; unfold Fit64; decide), ⟨fun x hx => (by cases hx), Nat.zero_le _⟩, fun y hy => (by cases hy), Nat.le_refl _, Nat.zero_le _⟩
set_option maxHeartbeats 4000000 in
set_option maxRecDepth 100000 in
theorem yy317 (A : Option Addr) (c : Nat) (l : List OneV) (id : Int) (hl : l.length ≤ 1048576) (hg : ∀ y ∈ l, y.Good ∧ KeyH y.k) (w : World) (hA : OnesAt w A l) :
  Calls Tryz.prog 23 #[.slice A l.length c, .int .i64 id] w fun e w' => GetRes w' (getK (l.map (·.k)) id) e ∧ Below w.heap.size w w' := by
 have HA := xh hA
 have HG := xh hg
 clear hA hg
 obtain ⟨K, HK⟩ : ∃ x, Hid (getK (l.map (·.k)) id = x) := ⟨_, xh rfl⟩
 rw [HK.out]
 have hz := yy24 w 63 (.int .i64 0) (.slice none 0 0) (.bool false) (.bool false) (.bool false) (.bool false) (.int .i64 0) (.string { data := #[] })
 have hb0 : Below w.heap.size w (w.alloc (.cells #[.int .i64 0, .slice none 0 0, .bool false, .bool false, .bool false, .bool false, .int .i64 0, .string { data := #[] }] 63)) := (Below.refl _ _).alloc (Nat.le_refl _) _
 obtain ⟨g, hgg⟩ : ∃ g, g = w.heap.size := ⟨_, rfl⟩
 obtain ⟨W1, HW1⟩ : ∃ x, Hid (w.alloc (.cells #[.int .i64 0, .slice none 0 0, .bool false, .bool false, .bool false, .bool false, .int .i64 0, .string { data := #[] }] 63) = x) := ⟨_, xh rfl⟩
 rw [HW1.out] at hz hb0
 rw [← hgg] at hz hb0
 have HZ := xh hz
 have HB0 := xh hb0
 have HGG := xh hgg
 clear hz hb0 hgg
 go_enter Tryz.func23, Tryz.ntmps23
 go_wp2
 rw [← HGG.out, HW1.out]
 go_loopw [10] (fun i wr => ∃ k : Nat, k ≤ l.length ∧ i = .int .i64 k ∧ Hid (Below W1.heap.size W1 wr) ∧ Hid (∀ y ∈ l.take k, y.k.id ≠ id)) (fun i _ => l.length - (intOf i).toNat)
 case atStart => exact ⟨0, Nat.zero_le _, rfl, xh (Below.refl _ _), xh (fun y hy => by simp at hy)⟩
 case round =>
  obtain ⟨k, hk, rfl, HBE, HNO⟩ := hrel
  have HBW : Hid (Below g w wr) := xh (HB0.out.trans (HBE.out.mono (by rw [HGG.out]; exact HB0.out.size)))
  have HZ1 := xh (HZ.out.of_block (HBE.out.block _ HZ.out.lt))
  by_cases hlt : k < l.length
  ·have hltI : (k : Int) < (l.length : Int) := by omega
   have hAw := HA.out.below (by rw [← HGG.out]; exact HBW.out)
   obtain ⟨b1, o1, rfl, _⟩ := hAw.form (by omega)
   obtain ⟨x0, x1, x2, x3, x4, x5, x6, x7⟩ := hAw.at_ hlt
   have hgk := HG.out _ (List.getElem_mem hlt)
   have HCK := xh (hAw.2 _ (List.getElem_mem hlt))
   have HYES : Hid (l[k].k.id = id → K = some l[k].k) := xh (fun h => by rw [← HK.out]; exact yy602 hlt HNO.out h)
   have HNX : Hid (l[k].k.id ≠ id → ∀ y ∈ l.take (k + 1), y.k.id ≠ id) := xh (fun h y hy => by
    rw [List.take_succ_eq_append_getElem hlt] at hy
    rcases List.mem_append.1 hy with hy | hy
    ·exact HNO.out y hy
    ·rw [List.mem_singleton.1 hy]; exact h)
   have HGK := xh hgk
   clear hgk hAw
   generalize l[k] = y at x0 x1 x2 x3 x4 x5 x6 x7 HCK HYES HNX HGK
   have HZ2 := xh (HZ1.out.alloc (Obj.cells (yy5 y).toArray 63))
   have HBA : Hid (Below wr.heap.size wr (wr.alloc (.cells (yy5 y).toArray 63))) := xh ((Below.refl _ _).alloc (Nat.le_refl _) _)
   unfold yy5 at HZ2 HBA
   by_cases hid : y.k.id = id
   ·have e1 : (y.k.id == id) = true := beq_iff_eq.2 hid
    have HID := xh (HYES.out hid)
    have GO := xh (fun (w' : World) (h : Below wr.heap.size wr w') => yy93 y HGK.out.1 HGK.out.2 w' (HCK.out.below h))
    unfold yy5 at GO
    clear hid HYES HNX
    go_wp2_with fail
    refine (GO.out _ HBA.out).mono ?_
    rintro e w3 ⟨⟨A2, c2, rfl, h1, h2, hown⟩, hb3⟩
    have hz3 := HZ2.out.of_block (hb3.block _ HZ2.out.lt)
    obtain ⟨⟨a0, f0⟩, ⟨a1, f1⟩, ⟨a2, f2⟩, ⟨a3, f3⟩, ⟨a4, f4⟩, ⟨a5, f5⟩, ⟨a6, f6⟩, ⟨a7, f7⟩, hres⟩ := yy33 hz3 (.int .i64 y.k.id) (.slice A2 y.k.ops.length c2) (.bool y.k.edited) (.bool y.k.removed) (.bool y.k.created) (.bool y.k.moved) (.int .i64 y.k.parent) (.string (bstr y.k.name))
    have HRES := xh (yy71 hres)
    have hgw : g ≤ wr.heap.size := by rw [HGG.out]; exact HBW.out.size
    have hbb := (HBW.out.trans (HBA.out.mono hgw)).trans (hb3.mono (Nat.le_trans hgw HBA.out.size))
    have HBF : Hid (Below g w _) := xh (yy38 hbb (Nat.le_refl g) (.int .i64 y.k.id) (.slice A2 y.k.ops.length c2) (.bool y.k.edited) (.bool y.k.removed) (.bool y.k.created) (.bool y.k.moved) (.int .i64 y.k.parent) (.string (bstr y.k.name)))
    have hgl : g < wr.heap.size := HZ1.out.lt
    have hgl2 : g < (wr.alloc (.cells #[.int .i64 y.k.id, .slice y.opsA y.k.ops.length y.opsC, .bool y.k.edited, .bool y.k.removed, .bool y.k.created, .bool y.k.moved, .int .i64 y.k.parent, .string (bstr y.k.name)] 63)).heap.size := Nat.lt_of_lt_of_le hgl HBA.out.size
    have HCO : Hid (yy8 _ A2 y.k.ops) := xh (yy7.of_own (ownsRow_setCell_below (a := ⟨g, 7, none⟩) (ownsRow_setCell_below (a := ⟨g, 6, none⟩) (ownsRow_setCell_below (a := ⟨g, 5, none⟩) (ownsRow_setCell_below (a := ⟨g, 4, none⟩) (ownsRow_setCell_below (a := ⟨g, 3, none⟩) (ownsRow_setCell_below (a := ⟨g, 2, none⟩) (ownsRow_setCell_below (a := ⟨g, 1, none⟩) (ownsRow_setCell_below (a := ⟨g, 0, none⟩) hown hgl2 (.int .i64 y.k.id)) hgl2 (.slice A2 y.k.ops.length c2)) hgl2 (.bool y.k.edited)) hgl2 (.bool y.k.removed)) hgl2 (.bool y.k.created)) hgl2 (.bool y.k.moved)) hgl2 (.int .i64 y.k.parent)) hgl2 (.string (bstr y.k.name))))
    have HRM : Hid (y.k.ops.length ≤ c2 ∧ c2 ≤ maxLen) := xh ⟨h1, h2⟩
    clear hz3 hres hb3 h1 h2 hown hbb hgl hgl2 hgw
    go_wp2
    refine bodyPost_ret (yy44 rfl _ _ g 63 #[.int .i64 y.k.id, .slice A2 y.k.ops.length c2, .bool y.k.edited, .bool y.k.removed, .bool y.k.created, .bool y.k.moved, .int .i64 y.k.parent, .string (bstr y.k.name)] (0, 0) _ rfl HRES.out Tryz.underlying63 rfl (by kernel_rfl)) rfl ?_
    obtain ⟨q1, q2, q3, q4, q5, q6⟩ := HGK.out.1
    exact ⟨⟨⟨y.k, A2, c2⟩, true, rfl, HCO.out, ⟨q1, q2, q3, q4, HRM.out.1, HRM.out.2⟩, .inl ⟨_, HID.out, rfl, rfl⟩⟩, by rw [← HGG.out]; exact HBF.out⟩
   ·have e1 : (y.k.id == id) = false := xn hid
    have HN1 := xh (HNX.out hid)
    have HBN : Hid (Below W1.heap.size W1 _) := xh (HBE.out.trans (HBA.out.mono HBE.out.size))
    clear hid HYES HNX
    go_wp2
    go_roundw
    case rel => exact ⟨k + 1, by omega, by go_num, HBN, HN1⟩
    case measure => simp [intOf]; omega
  ·obtain rfl : k = l.length := by omega
   have hltI : ¬ (l.length : Int) < (l.length : Int) := by omega
   have HF : Hid (K = none) := xh (by
    rw [← HK.out]
    refine yy530 fun y hy => HNO.out y ?_
    rw [List.take_length]; exact hy)
   obtain ⟨⟨a0, f0⟩, ⟨a1, f1⟩, ⟨a2, f2⟩, ⟨a3, f3⟩, ⟨a4, f4⟩, ⟨a5, f5⟩, ⟨a6, f6⟩, ⟨a7, f7⟩, hres⟩ := yy33 HZ1.out (.int .i64 0) (.slice none 0 0) (.bool false) (.bool false) (.bool false) (.bool false) (.int .i64 0) (.string { data := #[] })
   have HRES := xh (yy71 hres)
   have HBF : Hid (Below g w _) := xh (yy38 HBW.out (Nat.le_refl g) (.int .i64 0) (.slice none 0 0) (.bool false) (.bool false) (.bool false) (.bool false) (.int .i64 0) (.string { data := #[] }))
   clear hres
   go_wp2
   refine bodyPost_ret (yy44 rfl _ _ g 63 #[.int .i64 0, .slice none 0 0, .bool false, .bool false, .bool false, .bool false, .int .i64 0, .string { data := #[] }] (0, 0) _ rfl HRES.out Tryz.underlying63 rfl (by kernel_rfl)) rfl ?_
   exact ⟨⟨⟨oneZ 0, none, 0⟩, false, rfl, .inl rfl, yy690, .inr ⟨HF.out, rfl, rfl⟩⟩, by rw [← HGG.out]; exact HBF.out⟩
end Go.Proofs.YtjpjdkdbgjipnaaGreatDoor
