/- The landed effect's Get: the first one of an ID. Condition: what may be looked at. (Merged of 3 texts.) -/
import Derived.Test.YtjpjdkdbgjipnaaDoorV25
import Derived.Test.YtjpjdkdbgjipnaaDoorV47
import Derived.Test.YtjpjdkdbgjipnaaDoorV46
import Derived.Test.YtjpjdkdbgjipnaaDoorV40
import Derived.Deep.CutRange
import Derived.Test.YtjpjdkdbgjipnaaDoorV23
namespace Go.Proofs.YtjpjdkdbgjipnaaDoor
open Go.RowKit Go.Deep
def owS0 : Sched Nat := (.quiet 6 (.one 5 (.one 7 (.quiet 8 (.one 9 .done)))))
def owS1 : Sched Nat := (.one 2 owS0)
def owS : Sched Nat := (.quiet 0 (.quiet 3 (.two 1 (.two 2 (.one 4 owS0) 4 owS1) 4 (.one 1 owS1))))
theorem yy195 {w : World} {base : Nat} {e : TypeId} {size : Nat} {A : Option Addr} {n c : Nat} {xs : List Value} (h : w.ownsRow base e size (.slice A n c) n xs) : n ≤ c ∧ c ≤ maxLen := by
 rcases h.2 with ⟨h1, h2⟩ | ⟨g, cap, cur, h1, _, _, h2, h3, _⟩
 ·injection h1 with _ _ h1
  omega
 ·injection h1 with _ _ h1
  omega
set_option maxHeartbeats 8000000 in
set_option maxRecDepth 100000 in
theorem yy81 (x : OneV) (hx : x.Good) (hk : KeyH x.k) (w : World) (hA : yy6 w x.opsA x.k.ops) :
  Calls Tryd.prog 41 #[.agg (yy8 x).toArray] w fun e w' => (∃ A2 c2, e = .returned (.agg (yy8 ⟨x.k, A2, c2⟩).toArray) ∧ x.k.ops.length ≤ c2 ∧ c2 ≤ maxLen ∧ w'.ownsRow w.heap.size 51 3 (.slice A2 x.k.ops.length c2) x.k.ops.length (x.k.ops.flatMap yy2)) ∧ Below w.heap.size w w' := by
 have hlen := hk.1.len
 have htx : ∀ y ∈ x.k.ops, y.text.length ≤ 1099511627776 := fun y hy => by have := yy234 hy; have := hk.1.text; omega
 have hnl := hk.2
 have HGOOD := xh hx
 have GO := xh (fun (W : World) (h : Below w.heap.size w W) => yy319 x.opsA x.opsC x.k.ops (by omega) htx W (hA.below h))
 have GC := xh (fun W => yy61 (bstr x.k.name) W (by rw [bstr_size]; omega))
 clear hx hk hA hlen htx hnl
 obtain ⟨⟨xi, xo, x2, x3, x4, x5, xp, xn⟩, xA, xC⟩ := x
 unfold yy8
 simp only at GO GC
 obtain ⟨g, hg⟩ : ∃ g, g = w.heap.size := ⟨_, rfl⟩
 have HR1 := xh ((yy32 w 48 (.int .i64 xi) (.slice xA xo.length xC) (.bool x2) (.bool x3) (.bool x4) (.bool x5) (.int .i64 xp) (.string (bstr xn))).alloc (Obj.cells #[.int .i64 0, .slice none 0 0, .bool false, .bool false, .bool false, .bool false, .int .i64 0, .string { data := #[] }] 48))
 have HR2 := xh (yy32 (w.alloc (.cells #[.int .i64 xi, .slice xA xo.length xC, .bool x2, .bool x3, .bool x4, .bool x5, .int .i64 xp, .string (bstr xn)] 48)) 48 (.int .i64 0) (.slice none 0 0) (.bool false) (.bool false) (.bool false) (.bool false) (.int .i64 0) (.string { data := #[] }))
 rw [World.size_alloc, ← hg] at HR2
 rw [← hg] at HR1
 have HB1 : Hid (Below g w ((w.alloc (.cells #[.int .i64 xi, .slice xA xo.length xC, .bool x2, .bool x3, .bool x4, .bool x5, .int .i64 xp, .string (bstr xn)] 48)).alloc (.cells #[.int .i64 0, .slice none 0 0, .bool false, .bool false, .bool false, .bool false, .int .i64 0, .string { data := #[] }] 48))) := xh (by rw [hg]; exact ((Below.refl _ _).alloc (Nat.le_refl _) _).alloc (by simp) _)
 have HG := xh hg
 clear hg
 go_enter Tryd.func41, Tryd.ntmps41
 go_upto_region 1 with fail
 rw [← HG.out]
 obtain ⟨W0, HW0⟩ : ∃ x, Hid (((w.alloc (.cells #[.int .i64 xi, .slice xA xo.length xC, .bool x2, .bool x3, .bool x4, .bool x5, .int .i64 xp, .string (bstr xn)] 48)).alloc (.cells #[.int .i64 0, .slice none 0 0, .bool false, .bool false, .bool false, .bool false, .int .i64 0, .string { data := #[] }] 48)) = x) := ⟨_, xh rfl⟩
 rw [HW0.out] at HR1 HR2 HB1 ⊢
 clear HW0
 refine Sched.yy563 owS (by kernel_rfl) (by kernel_rfl) (fun _ _ d _ _ h => by cases d <;> exact h) ?_
 replace HR1 : Hid (World.rowIs _ g 48 8 (eightV (.int .i64 xi) (.slice xA xo.length xC) (.bool x2) (.bool x3) (.bool x4) (.bool x5) (.int .i64 xp) (.string (bstr xn)))) := xh HR1.out.drew
 replace HR2 := xh HR2.out.drew
 replace HB1 := xh HB1.out.drew
 generalize World.drew _ = wd at HR1 HR2 HB1 ⊢
 simp only [owS, Sched.picked, List.getElem?_cons_succ, List.getElem?_cons_zero, Option.getD_some]
 repeat (first | (refine Sched.yy714 (by rfl) (fun K hK => ?_); go_big_quiet_op; refine hK _ ?_; clear hK K) | (refine Sched.yy481 (by rfl) ?_; simp only [Act.put, xsa, xsz, xss]))
 refine Sched.walkF_two ?_ ?_
 ·skip
  have hld := (yy10 HR1.out).2.2.2.2.2.2.2
  refine Sched.walkF_one (by rfl) (fun K hK => ?_)
  go_simp
  refine hK _ _ ?_
  clear hK K hld
  repeat (first | (refine Sched.yy714 (by rfl) (fun K hK => ?_); go_big_quiet_op; refine hK _ ?_; clear hK K) | (refine Sched.yy481 (by rfl) ?_; simp only [Act.put, xsa, xsz, xss]))
  refine Sched.walkF_two ?_ ?_
  ·skip
   refine Sched.walkF_one (by rfl) (fun K hK => ?_)
   go_simp
   refine (GC.out _).mono ?_
   rintro e v1 ⟨rfl, hb⟩
   refine hK _ _ ?_
   clear hK K
   replace HR1 := xh (HR1.out.of_block (hb.block _ HR1.out.lt))
   replace HR2 := xh (HR2.out.of_block (hb.block _ HR2.out.lt))
   replace HB1 := xh (HB1.out.trans (hb.mono (Nat.le_trans (by rw [HG.out]; exact Nat.le_refl _) HB1.out.size)))
   clear hb
   repeat (first | (refine Sched.yy714 (by rfl) (fun K hK => ?_); go_big_quiet_op; refine hK _ ?_; clear hK K) | (refine Sched.yy481 (by rfl) ?_; simp only [Act.put, xsa, xsz, xss]))
   have hld := (yy10 HR1.out).2.1
   refine Sched.walkF_one (by rfl) (fun K hK => ?_)
   go_simp
   refine hK _ _ ?_
   clear hK K hld
   repeat (first | (refine Sched.yy714 (by rfl) (fun K hK => ?_); go_big_quiet_op; refine hK _ ?_; clear hK K) | (refine Sched.yy481 (by rfl) ?_; simp only [Act.put, xsa, xsz, xss]))
   simp only [owS0, Sched.picked, List.getElem?_cons_succ, List.getElem?_cons_zero, Option.getD_some]
   repeat (first | (refine Sched.yy714 (by rfl) (fun K hK => ?_); go_big_quiet_op; refine hK _ ?_; clear hK K) | (refine Sched.yy481 (by rfl) ?_; simp only [Act.put, xsa, xsz, xss]))
   refine Sched.walkF_one (by rfl) (fun K hK => ?_)
   go_simp
   refine (GO.out _ (by rw [← HG.out]; exact HB1.out)).mono ?_
   rintro e v2 ⟨⟨A2, c2, rfl, hown⟩, hb⟩
   refine hK _ _ ?_
   clear hK K
   have hgs := HR1.out.lt
   have hgs2 := HR2.out.lt
   replace HR1 := xh (HR1.out.of_block (hb.block _ hgs))
   replace HR2 := xh (HR2.out.of_block (hb.block _ hgs2))
   replace HB1 := xh (HB1.out.trans (hb.mono (Nat.le_of_lt hgs)))
   have HOWN := xh (yy34 hown (base' := g + 2) (by omega))
   clear hb hown hgs hgs2
   repeat (first | (refine Sched.yy714 (by rfl) (fun K hK => ?_); go_big_quiet_op; refine hK _ ?_; clear hK K) | (refine Sched.yy481 (by rfl) ?_; simp only [Act.put, xsa, xsz, xss]))
   have hc7 := HR1.out.cell (i := 7) (by omega)
   have hf7 := HR1.out.frozen 7
   refine Sched.walkF_one (by rfl) (fun K hK => ?_)
   go_simp
   refine hK _ _ ?_
   clear hK K hc7 hf7
   replace HR1 := xh (HR1.out.set 7 (.string (bstr xn)))
   replace HR2 := xh (HR2.out.setOther (a := ⟨g, 7, none⟩) (by show g + 1 ≠ g; omega) (.string (bstr xn)))
   replace HB1 := xh (HB1.out.setCell (p := ⟨g, 7, none⟩) (Nat.le_refl g) (.string (bstr xn)))
   replace HOWN := xh (ownsRow_setCell_below (a := ⟨g, 7, none⟩) HOWN.out (by show g < g + 2; omega) (.string (bstr xn)))
   repeat (first | (refine Sched.yy714 (by rfl) (fun K hK => ?_); go_big_quiet_op; refine hK _ ?_; clear hK K) | (refine Sched.yy481 (by rfl) ?_; simp only [Act.put, xsa, xsz, xss]))
   have hc1 := HR1.out.cell (i := 1) (by omega)
   have hf1 := HR1.out.frozen 1
   refine Sched.walkF_one (by rfl) (fun K hK => ?_)
   go_simp
   refine hK _ _ ?_
   clear hK K hc1 hf1
   replace HR1 := xh (HR1.out.set 1 (.slice A2 xo.length c2))
   replace HR2 := xh (HR2.out.setOther (a := ⟨g, 1, none⟩) (by show g + 1 ≠ g; omega) (.slice A2 xo.length c2))
   replace HB1 := xh (HB1.out.setCell (p := ⟨g, 1, none⟩) (Nat.le_refl g) (.slice A2 xo.length c2))
   replace HOWN := xh (ownsRow_setCell_below (a := ⟨g, 1, none⟩) HOWN.out (by show g < g + 2; omega) (.slice A2 xo.length c2))
   skip
   generalize World.setCell _ _ _ = v6 at HR1 HR2 HB1 HOWN ⊢
   refine Sched.yy728 ?_
   have hrow : World.rowIs v6 g 48 8 (eightV (.int .i64 xi) (.slice A2 xo.length c2) (.bool x2) (.bool x3) (.bool x4) (.bool x5) (.int .i64 xp) (.string (bstr xn))) := HR1.out.congr fun i hi => by rcases (show i = 0 ∨ i = 1 ∨ i = 2 ∨ i = 3 ∨ i = 4 ∨ i = 5 ∨ i = 6 ∨ i = 7 by omega) with rfl | rfl | rfl | rfl | rfl | rfl | rfl | rfl <;> rfl
   obtain ⟨z0, z1, z2, z3, z4, z5, z6, z7⟩ := yy10 hrow
   obtain ⟨⟨a0, f0⟩, ⟨a1, f1⟩, ⟨a2, f2⟩, ⟨a3, f3⟩, ⟨a4, f4⟩, ⟨a5, f5⟩, ⟨a6, f6⟩, ⟨a7, f7⟩, hres⟩ := yy51 HR2.out (.int .i64 xi) (.slice A2 xo.length c2) (.bool x2) (.bool x3) (.bool x4) (.bool x5) (.int .i64 xp) (.string (bstr xn))
   have HRES := xh (yy68 hres)
   clear hrow hres
   go_wp2
   refine bodyPost_ret (results_cell_row rfl _ _ (g + 1) 48 #[.int .i64 xi, .slice A2 xo.length c2, .bool x2, .bool x3, .bool x4, .bool x5, .int .i64 xp, .string (bstr xn)] (0, 0) _ rfl HRES.out Tryd.underlying48 rfl (by kernel_rfl)) rfl ?_
   have hroom := yy195 HOWN.out
   refine ⟨⟨A2, c2, rfl, hroom.1, hroom.2, ?_⟩, ?_⟩
   ·exact yy34 (ownsRow_setCell_below (a := ⟨g + 1, 7, none⟩) (ownsRow_setCell_below (a := ⟨g + 1, 6, none⟩) (ownsRow_setCell_below (a := ⟨g + 1, 5, none⟩) (ownsRow_setCell_below (a := ⟨g + 1, 4, none⟩) (ownsRow_setCell_below (a := ⟨g + 1, 3, none⟩) (ownsRow_setCell_below (a := ⟨g + 1, 2, none⟩) (ownsRow_setCell_below (a := ⟨g + 1, 1, none⟩) (ownsRow_setCell_below (a := ⟨g + 1, 0, none⟩) HOWN.out (by show g + 1 < g + 2; omega) _) (by show g + 1 < g + 2; omega) _) (by show g + 1 < g + 2; omega) _) (by show g + 1 < g + 2; omega) _) (by show g + 1 < g + 2; omega) _) (by show g + 1 < g + 2; omega) _) (by show g + 1 < g + 2; omega) _) (by show g + 1 < g + 2; omega) _) (by rw [← HG.out]; omega)
   ·rw [← HG.out]
    exact ((((((((HB1.out).setCell (p := ⟨g + 1, 0, none⟩) (Nat.le_succ g) _).setCell (p := ⟨g + 1, 1, none⟩) (Nat.le_succ g) _).setCell (p := ⟨g + 1, 2, none⟩) (Nat.le_succ g) _).setCell (p := ⟨g + 1, 3, none⟩) (Nat.le_succ g) _).setCell (p := ⟨g + 1, 4, none⟩) (Nat.le_succ g) _).setCell (p := ⟨g + 1, 5, none⟩) (Nat.le_succ g) _).setCell (p := ⟨g + 1, 6, none⟩) (Nat.le_succ g) _).setCell (p := ⟨g + 1, 7, none⟩) (Nat.le_succ g) _
  ·skip
   have hld := (yy10 HR1.out).2.1
   refine Sched.walkF_one (by rfl) (fun K hK => ?_)
   go_simp
   refine hK _ _ ?_
   clear hK K hld
   repeat (first | (refine Sched.yy714 (by rfl) (fun K hK => ?_); go_big_quiet_op; refine hK _ ?_; clear hK K) | (refine Sched.yy481 (by rfl) ?_; simp only [Act.put, xsa, xsz, xss]))
   simp only [owS1, Sched.picked, List.getElem?_cons_succ, List.getElem?_cons_zero, Option.getD_some]
   refine Sched.walkF_one (by rfl) (fun K hK => ?_)
   go_simp
   refine (GC.out _).mono ?_
   rintro e v1 ⟨rfl, hb⟩
   refine hK _ _ ?_
   clear hK K
   replace HR1 := xh (HR1.out.of_block (hb.block _ HR1.out.lt))
   replace HR2 := xh (HR2.out.of_block (hb.block _ HR2.out.lt))
   replace HB1 := xh (HB1.out.trans (hb.mono (Nat.le_trans (by rw [HG.out]; exact Nat.le_refl _) HB1.out.size)))
   clear hb
   repeat (first | (refine Sched.yy714 (by rfl) (fun K hK => ?_); go_big_quiet_op; refine hK _ ?_; clear hK K) | (refine Sched.yy481 (by rfl) ?_; simp only [Act.put, xsa, xsz, xss]))
   simp only [owS0, Sched.picked, List.getElem?_cons_succ, List.getElem?_cons_zero, Option.getD_some]
   repeat (first | (refine Sched.yy714 (by rfl) (fun K hK => ?_); go_big_quiet_op; refine hK _ ?_; clear hK K) | (refine Sched.yy481 (by rfl) ?_; simp only [Act.put, xsa, xsz, xss]))
   refine Sched.walkF_one (by rfl) (fun K hK => ?_)
   go_simp
   refine (GO.out _ (by rw [← HG.out]; exact HB1.out)).mono ?_
   rintro e v2 ⟨⟨A2, c2, rfl, hown⟩, hb⟩
   refine hK _ _ ?_
   clear hK K
   have hgs := HR1.out.lt
   have hgs2 := HR2.out.lt
   replace HR1 := xh (HR1.out.of_block (hb.block _ hgs))
   replace HR2 := xh (HR2.out.of_block (hb.block _ hgs2))
   replace HB1 := xh (HB1.out.trans (hb.mono (Nat.le_of_lt hgs)))
   have HOWN := xh (yy34 hown (base' := g + 2) (by omega))
   clear hb hown hgs hgs2
   repeat (first | (refine Sched.yy714 (by rfl) (fun K hK => ?_); go_big_quiet_op; refine hK _ ?_; clear hK K) | (refine Sched.yy481 (by rfl) ?_; simp only [Act.put, xsa, xsz, xss]))
   have hc7 := HR1.out.cell (i := 7) (by omega)
   have hf7 := HR1.out.frozen 7
   refine Sched.walkF_one (by rfl) (fun K hK => ?_)
   go_simp
   refine hK _ _ ?_
   clear hK K hc7 hf7
   replace HR1 := xh (HR1.out.set 7 (.string (bstr xn)))
   replace HR2 := xh (HR2.out.setOther (a := ⟨g, 7, none⟩) (by show g + 1 ≠ g; omega) (.string (bstr xn)))
   replace HB1 := xh (HB1.out.setCell (p := ⟨g, 7, none⟩) (Nat.le_refl g) (.string (bstr xn)))
   replace HOWN := xh (ownsRow_setCell_below (a := ⟨g, 7, none⟩) HOWN.out (by show g < g + 2; omega) (.string (bstr xn)))
   repeat (first | (refine Sched.yy714 (by rfl) (fun K hK => ?_); go_big_quiet_op; refine hK _ ?_; clear hK K) | (refine Sched.yy481 (by rfl) ?_; simp only [Act.put, xsa, xsz, xss]))
   have hc1 := HR1.out.cell (i := 1) (by omega)
   have hf1 := HR1.out.frozen 1
   refine Sched.walkF_one (by rfl) (fun K hK => ?_)
   go_simp
   refine hK _ _ ?_
   clear hK K hc1 hf1
   replace HR1 := xh (HR1.out.set 1 (.slice A2 xo.length c2))
   replace HR2 := xh (HR2.out.setOther (a := ⟨g, 1, none⟩) (by show g + 1 ≠ g; omega) (.slice A2 xo.length c2))
   replace HB1 := xh (HB1.out.setCell (p := ⟨g, 1, none⟩) (Nat.le_refl g) (.slice A2 xo.length c2))
   replace HOWN := xh (ownsRow_setCell_below (a := ⟨g, 1, none⟩) HOWN.out (by show g < g + 2; omega) (.slice A2 xo.length c2))
   skip
   generalize World.setCell _ _ _ = v6 at HR1 HR2 HB1 HOWN ⊢
   refine Sched.yy728 ?_
   have hrow : World.rowIs v6 g 48 8 (eightV (.int .i64 xi) (.slice A2 xo.length c2) (.bool x2) (.bool x3) (.bool x4) (.bool x5) (.int .i64 xp) (.string (bstr xn))) := HR1.out.congr fun i hi => by rcases (show i = 0 ∨ i = 1 ∨ i = 2 ∨ i = 3 ∨ i = 4 ∨ i = 5 ∨ i = 6 ∨ i = 7 by omega) with rfl | rfl | rfl | rfl | rfl | rfl | rfl | rfl <;> rfl
   obtain ⟨z0, z1, z2, z3, z4, z5, z6, z7⟩ := yy10 hrow
   obtain ⟨⟨a0, f0⟩, ⟨a1, f1⟩, ⟨a2, f2⟩, ⟨a3, f3⟩, ⟨a4, f4⟩, ⟨a5, f5⟩, ⟨a6, f6⟩, ⟨a7, f7⟩, hres⟩ := yy51 HR2.out (.int .i64 xi) (.slice A2 xo.length c2) (.bool x2) (.bool x3) (.bool x4) (.bool x5) (.int .i64 xp) (.string (bstr xn))
   have HRES := xh (yy68 hres)
   clear hrow hres
   go_wp2
   refine bodyPost_ret (results_cell_row rfl _ _ (g + 1) 48 #[.int .i64 xi, .slice A2 xo.length c2, .bool x2, .bool x3, .bool x4, .bool x5, .int .i64 xp, .string (bstr xn)] (0, 0) _ rfl HRES.out Tryd.underlying48 rfl (by kernel_rfl)) rfl ?_
   have hroom := yy195 HOWN.out
   refine ⟨⟨A2, c2, rfl, hroom.1, hroom.2, ?_⟩, ?_⟩
   ·exact yy34 (ownsRow_setCell_below (a := ⟨g + 1, 7, none⟩) (ownsRow_setCell_below (a := ⟨g + 1, 6, none⟩) (ownsRow_setCell_below (a := ⟨g + 1, 5, none⟩) (ownsRow_setCell_below (a := ⟨g + 1, 4, none⟩) (ownsRow_setCell_below (a := ⟨g + 1, 3, none⟩) (ownsRow_setCell_below (a := ⟨g + 1, 2, none⟩) (ownsRow_setCell_below (a := ⟨g + 1, 1, none⟩) (ownsRow_setCell_below (a := ⟨g + 1, 0, none⟩) HOWN.out (by show g + 1 < g + 2; omega) _) (by show g + 1 < g + 2; omega) _) (by show g + 1 < g + 2; omega) _) (by show g + 1 < g + 2; omega) _) (by show g + 1 < g + 2; omega) _) (by show g + 1 < g + 2; omega) _) (by show g + 1 < g + 2; omega) _) (by show g + 1 < g + 2; omega) _) (by rw [← HG.out]; omega)
   ·rw [← HG.out]
    exact ((((((((HB1.out).setCell (p := ⟨g + 1, 0, none⟩) (Nat.le_succ g) _).setCell (p := ⟨g + 1, 1, none⟩) (Nat.le_succ g) _).setCell (p := ⟨g + 1, 2, none⟩) (Nat.le_succ g) _).setCell (p := ⟨g + 1, 3, none⟩) (Nat.le_succ g) _).setCell (p := ⟨g + 1, 4, none⟩) (Nat.le_succ g) _).setCell (p := ⟨g + 1, 5, none⟩) (Nat.le_succ g) _).setCell (p := ⟨g + 1, 6, none⟩) (Nat.le_succ g) _).setCell (p := ⟨g + 1, 7, none⟩) (Nat.le_succ g) _
 ·skip
  have hld := (yy10 HR1.out).2.1
  refine Sched.walkF_one (by rfl) (fun K hK => ?_)
  go_simp
  refine hK _ _ ?_
  clear hK K hld
  repeat (first | (refine Sched.yy714 (by rfl) (fun K hK => ?_); go_big_quiet_op; refine hK _ ?_; clear hK K) | (refine Sched.yy481 (by rfl) ?_; simp only [Act.put, xsa, xsz, xss]))
  have hld := (yy10 HR1.out).2.2.2.2.2.2.2
  refine Sched.walkF_one (by rfl) (fun K hK => ?_)
  go_simp
  refine hK _ _ ?_
  clear hK K hld
  repeat (first | (refine Sched.yy714 (by rfl) (fun K hK => ?_); go_big_quiet_op; refine hK _ ?_; clear hK K) | (refine Sched.yy481 (by rfl) ?_; simp only [Act.put, xsa, xsz, xss]))
  simp only [owS1, Sched.picked, List.getElem?_cons_succ, List.getElem?_cons_zero, Option.getD_some]
  refine Sched.walkF_one (by rfl) (fun K hK => ?_)
  go_simp
  refine (GC.out _).mono ?_
  rintro e v1 ⟨rfl, hb⟩
  refine hK _ _ ?_
  clear hK K
  replace HR1 := xh (HR1.out.of_block (hb.block _ HR1.out.lt))
  replace HR2 := xh (HR2.out.of_block (hb.block _ HR2.out.lt))
  replace HB1 := xh (HB1.out.trans (hb.mono (Nat.le_trans (by rw [HG.out]; exact Nat.le_refl _) HB1.out.size)))
  clear hb
  repeat (first | (refine Sched.yy714 (by rfl) (fun K hK => ?_); go_big_quiet_op; refine hK _ ?_; clear hK K) | (refine Sched.yy481 (by rfl) ?_; simp only [Act.put, xsa, xsz, xss]))
  simp only [owS0, Sched.picked, List.getElem?_cons_succ, List.getElem?_cons_zero, Option.getD_some]
  repeat (first | (refine Sched.yy714 (by rfl) (fun K hK => ?_); go_big_quiet_op; refine hK _ ?_; clear hK K) | (refine Sched.yy481 (by rfl) ?_; simp only [Act.put, xsa, xsz, xss]))
  refine Sched.walkF_one (by rfl) (fun K hK => ?_)
  go_simp
  refine (GO.out _ (by rw [← HG.out]; exact HB1.out)).mono ?_
  rintro e v2 ⟨⟨A2, c2, rfl, hown⟩, hb⟩
  refine hK _ _ ?_
  clear hK K
  have hgs := HR1.out.lt
  have hgs2 := HR2.out.lt
  replace HR1 := xh (HR1.out.of_block (hb.block _ hgs))
  replace HR2 := xh (HR2.out.of_block (hb.block _ hgs2))
  replace HB1 := xh (HB1.out.trans (hb.mono (Nat.le_of_lt hgs)))
  have HOWN := xh (yy34 hown (base' := g + 2) (by omega))
  clear hb hown hgs hgs2
  repeat (first | (refine Sched.yy714 (by rfl) (fun K hK => ?_); go_big_quiet_op; refine hK _ ?_; clear hK K) | (refine Sched.yy481 (by rfl) ?_; simp only [Act.put, xsa, xsz, xss]))
  have hc7 := HR1.out.cell (i := 7) (by omega)
  have hf7 := HR1.out.frozen 7
  refine Sched.walkF_one (by rfl) (fun K hK => ?_)
  go_simp
  refine hK _ _ ?_
  clear hK K hc7 hf7
  replace HR1 := xh (HR1.out.set 7 (.string (bstr xn)))
  replace HR2 := xh (HR2.out.setOther (a := ⟨g, 7, none⟩) (by show g + 1 ≠ g; omega) (.string (bstr xn)))
  replace HB1 := xh (HB1.out.setCell (p := ⟨g, 7, none⟩) (Nat.le_refl g) (.string (bstr xn)))
  replace HOWN := xh (ownsRow_setCell_below (a := ⟨g, 7, none⟩) HOWN.out (by show g < g + 2; omega) (.string (bstr xn)))
  repeat (first | (refine Sched.yy714 (by rfl) (fun K hK => ?_); go_big_quiet_op; refine hK _ ?_; clear hK K) | (refine Sched.yy481 (by rfl) ?_; simp only [Act.put, xsa, xsz, xss]))
  have hc1 := HR1.out.cell (i := 1) (by omega)
  have hf1 := HR1.out.frozen 1
  refine Sched.walkF_one (by rfl) (fun K hK => ?_)
  go_simp
  refine hK _ _ ?_
  clear hK K hc1 hf1
  replace HR1 := xh (HR1.out.set 1 (.slice A2 xo.length c2))
  replace HR2 := xh (HR2.out.setOther (a := ⟨g, 1, none⟩) (by show g + 1 ≠ g; omega) (.slice A2 xo.length c2))
  replace HB1 := xh (HB1.out.setCell (p := ⟨g, 1, none⟩) (Nat.le_refl g) (.slice A2 xo.length c2))
  replace HOWN := xh (ownsRow_setCell_below (a := ⟨g, 1, none⟩) HOWN.out (by show g < g + 2; omega) (.slice A2 xo.length c2))
  skip
  generalize World.setCell _ _ _ = v6 at HR1 HR2 HB1 HOWN ⊢
  refine Sched.yy728 ?_
  have hrow : World.rowIs v6 g 48 8 (eightV (.int .i64 xi) (.slice A2 xo.length c2) (.bool x2) (.bool x3) (.bool x4) (.bool x5) (.int .i64 xp) (.string (bstr xn))) := HR1.out.congr fun i hi => by rcases (show i = 0 ∨ i = 1 ∨ i = 2 ∨ i = 3 ∨ i = 4 ∨ i = 5 ∨ i = 6 ∨ i = 7 by omega) with rfl | rfl | rfl | rfl | rfl | rfl | rfl | rfl <;> rfl
  obtain ⟨z0, z1, z2, z3, z4, z5, z6, z7⟩ := yy10 hrow
  obtain ⟨⟨a0, f0⟩, ⟨a1, f1⟩, ⟨a2, f2⟩, ⟨a3, f3⟩, ⟨a4, f4⟩, ⟨a5, f5⟩, ⟨a6, f6⟩, ⟨a7, f7⟩, hres⟩ := yy51 HR2.out (.int .i64 xi) (.slice A2 xo.length c2) (.bool x2) (.bool x3) (.bool x4) (.bool x5) (.int .i64 xp) (.string (bstr xn))
  have HRES := xh (yy68 hres)
  clear hrow hres
  go_wp2
  refine bodyPost_ret (results_cell_row rfl _ _ (g + 1) 48 #[.int .i64 xi, .slice A2 xo.length c2, .bool x2, .bool x3, .bool x4, .bool x5, .int .i64 xp, .string (bstr xn)] (0, 0) _ rfl HRES.out Tryd.underlying48 rfl (by kernel_rfl)) rfl ?_
  have hroom := yy195 HOWN.out
  refine ⟨⟨A2, c2, rfl, hroom.1, hroom.2, ?_⟩, ?_⟩
  ·exact yy34 (ownsRow_setCell_below (a := ⟨g + 1, 7, none⟩) (ownsRow_setCell_below (a := ⟨g + 1, 6, none⟩) (ownsRow_setCell_below (a := ⟨g + 1, 5, none⟩) (ownsRow_setCell_below (a := ⟨g + 1, 4, none⟩) (ownsRow_setCell_below (a := ⟨g + 1, 3, none⟩) (ownsRow_setCell_below (a := ⟨g + 1, 2, none⟩) (ownsRow_setCell_below (a := ⟨g + 1, 1, none⟩) (ownsRow_setCell_below (a := ⟨g + 1, 0, none⟩) HOWN.out (by show g + 1 < g + 2; omega) _) (by show g + 1 < g + 2; omega) _) (by show g + 1 < g + 2; omega) _) (by show g + 1 < g + 2; omega) _) (by show g + 1 < g + 2; omega) _) (by show g + 1 < g + 2; omega) _) (by show g + 1 < g + 2; omega) _) (by show g + 1 < g + 2; omega) _) (by rw [← HG.out]; omega)
  ·rw [← HG.out]
   exact ((((((((HB1.out).setCell (p := ⟨g + 1, 0, none⟩) (Nat.le_succ g) _).setCell (p := ⟨g + 1, 1, none⟩) (Nat.le_succ g) _).setCell (p := ⟨g + 1, 2, none⟩) (Nat.le_succ g) _).setCell (p := ⟨g + 1, 3, none⟩) (Nat.le_succ g) _).setCell (p := ⟨g + 1, 4, none⟩) (Nat.le_succ g) _).setCell (p := ⟨g + 1, 5, none⟩) (Nat.le_succ g) _).setCell (p := ⟨g + 1, 6, none⟩) (Nat.le_succ g) _).setCell (p := ⟨g + 1, 7, none⟩) (Nat.le_succ g) _
theorem yy250 {w W : World} {b B : Nat} (h : Below B W w) (hb : B ≤ b) (u0 u1 u2 u3 u4 u5 : Value) : Below B W ((((((w.setCell ⟨b, 0, none⟩ u0).setCell ⟨b, 1, none⟩ u1).setCell ⟨b, 2, none⟩ u2).setCell ⟨b, 3, none⟩ u3).setCell ⟨b, 4, none⟩ u4).setCell ⟨b, 5, none⟩ u5) :=
 ((((((h.setCell (p := ⟨b, 0, none⟩) hb u0).setCell (p := ⟨b, 1, none⟩) hb u1).setCell (p := ⟨b, 2, none⟩) hb u2).setCell (p := ⟨b, 3, none⟩) hb u3).setCell (p := ⟨b, 4, none⟩) hb u4).setCell (p := ⟨b, 5, none⟩) hb u5)
theorem yy483 {w : World} {b B : Nat} {e : TypeId} {size n : Nat} {v : Value} {xs : List Value} (h : w.ownsRow B e size v n xs) (hb : b < B) (u0 u1 u2 u3 u4 u5 : Value) : World.ownsRow ((((((w.setCell ⟨b, 0, none⟩ u0).setCell ⟨b, 1, none⟩ u1).setCell ⟨b, 2, none⟩ u2).setCell ⟨b, 3, none⟩ u3).setCell ⟨b, 4, none⟩ u4).setCell ⟨b, 5, none⟩ u5) B e size v n xs :=
 ownsRow_setCell_below (a := ⟨b, 5, none⟩) (ownsRow_setCell_below (a := ⟨b, 4, none⟩) (ownsRow_setCell_below (a := ⟨b, 3, none⟩) (ownsRow_setCell_below (a := ⟨b, 2, none⟩) (ownsRow_setCell_below (a := ⟨b, 1, none⟩) (ownsRow_setCell_below (a := ⟨b, 0, none⟩) h hb u0) hb u1) hb u2) hb u3) hb u4) hb u5
set_option maxHeartbeats 8000000 in
set_option maxRecDepth 100000 in
theorem yy376 (a : ActV) (hk : Held1 a.ops) (hnm : a.name.length ≤ 1048576) (w : World) (hA : yy6 w a.opsA a.ops) :
  Calls Tryd.prog 44 #[.agg (yy0 a).toArray] w fun e w' => (∃ A2 c2, e = .returned (.agg (yy0 { a with opsA := A2, opsC := c2 }).toArray) ∧ a.ops.length ≤ c2 ∧ c2 ≤ maxLen ∧ w'.ownsRow w.heap.size 51 3 (.slice A2 a.ops.length c2) a.ops.length (a.ops.flatMap yy2)) ∧ Below w.heap.size w w' := by
 have hlen := hk.len
 have htx : ∀ y ∈ a.ops, y.text.length ≤ 1099511627776 := fun y hy => by have := yy234 hy; have := hk.text; omega
 have HA := xh (fun (W : World) (h : Below w.heap.size w W) => hA.below h)
 have HF := xh htx
 have GN := xh (fun W => yy61 (bstr a.name) W (by rw [bstr_size]; omega))
 clear hk hA htx hnm
 obtain ⟨ak, ai, ap, an, ad, aA, aC, l⟩ := a
 unfold yy0
 simp only at HA HF GN hlen ⊢
 obtain ⟨g, hg⟩ : ∃ g, g = w.heap.size := ⟨_, rfl⟩
 have HR1 := xh ((yy62 w 46 (.int .i64 ak) (.int .i64 ai) (.int .i64 ap) (.string (bstr an)) (.bool ad) (.slice aA l.length aC)).alloc (Obj.cells #[.int .i64 0, .int .i64 0, .int .i64 0, .string { data := #[] }, .bool false, .slice none 0 0] 46))
 have HR2 := xh (yy62 (w.alloc (.cells #[.int .i64 ak, .int .i64 ai, .int .i64 ap, .string (bstr an), .bool ad, .slice aA l.length aC] 46)) 46 (.int .i64 0) (.int .i64 0) (.int .i64 0) (.string { data := #[] }) (.bool false) (.slice none 0 0))
 rw [World.size_alloc, ← hg] at HR2
 rw [← hg] at HR1 HA
 have HB1 : Hid (Below g w ((w.alloc (.cells #[.int .i64 ak, .int .i64 ai, .int .i64 ap, .string (bstr an), .bool ad, .slice aA l.length aC] 46)).alloc (.cells #[.int .i64 0, .int .i64 0, .int .i64 0, .string { data := #[] }, .bool false, .slice none 0 0] 46))) := xh (by rw [hg]; exact ((Below.refl _ _).alloc (Nat.le_refl _) _).alloc (by simp) _)
 have HSZ : Hid ((World.heap ((w.alloc (.cells #[.int .i64 ak, .int .i64 ai, .int .i64 ap, .string (bstr an), .bool ad, .slice aA l.length aC] 46)).alloc (.cells #[.int .i64 0, .int .i64 0, .int .i64 0, .string { data := #[] }, .bool false, .slice none 0 0] 46))).size = g + 2) := xh (by rw [World.size_alloc, World.size_alloc, hg])
 have HG := xh hg
 clear hg
 rw [← HG.out]
 go_enter Tryd.func44, Tryd.ntmps44
 go_upto_region 1 with fail
 rw [← HG.out]
 obtain ⟨W0, HW0⟩ : ∃ x, Hid (((w.alloc (.cells #[.int .i64 ak, .int .i64 ai, .int .i64 ap, .string (bstr an), .bool ad, .slice aA l.length aC] 46)).alloc (.cells #[.int .i64 0, .int .i64 0, .int .i64 0, .string { data := #[] }, .bool false, .slice none 0 0] 46)) = x) := ⟨_, xh rfl⟩
 rw [HW0.out] at HR1 HR2 HB1 HSZ ⊢
 clear HW0
 obtain ⟨y0, y1, y2, y3, y4, y5⟩ := yy11 HR1.out
 go_wp2
 clear y0 y1 y2 y3 y4 y5
 go_loopw [3, 5, 9] (fun o p i wr => ∃ (k : Nat) (A0 : Option Addr) (c0 : Nat), k ≤ l.length ∧ i = .int .i64 k ∧ o = .slice A0 (l.take k).length c0 ∧ Hid (wr.ownsRow (g + 2) 51 3 (.slice A0 (l.take k).length c0) (l.take k).length ((l.take k).flatMap yy2)) ∧ Hid (Below (g + 2) W0 wr)) (fun _ _ i _ => l.length - (intOf i).toNat)
 case atStart => exact ⟨0, none, 0, Nat.zero_le _, rfl, rfl, xh (World.ownsRow_nil _ _ _ _), xh (Below.refl _ _)⟩
 case round =>
  obtain ⟨k, A0, c0, hk, rfl, rfl, HOWN, HB⟩ := hrel
  have hgs2 := HR2.out.lt
  have HUPW : Hid (g + 2 ≤ wr.heap.size) := xh (by have := HB.out.size; have := HSZ.out; omega)
  have HBG : Hid (Below g w wr) := xh (HB1.out.trans (HB.out.mono (by omega)))
  have HRA : Hid (World.rowIs wr g 46 6 (sixV (.int .i64 ak) (.int .i64 ai) (.int .i64 ap) (.string (bstr an)) (.bool ad) (.slice aA l.length aC))) := xh (HR1.out.of_block (HB.out.block _ (by omega)))
  have HRB : Hid (World.rowIs wr (g + 1) 46 6 (sixV (.int .i64 0) (.int .i64 0) (.int .i64 0) (.string { data := #[] }) (.bool false) (.slice none 0 0))) := xh (HR2.out.of_block (HB.out.block _ (by omega)))
  clear hgs2
  by_cases hlt : k < l.length
  ·have hAw := HA.out _ HBG.out
   obtain ⟨b, off, rfl, _⟩ := hAw.form (by omega)
   obtain ⟨x0, x1, x2⟩ := hAw.at_ hlt
   clear hAw
   have HFX := xh (HF.out _ (List.getElem_mem hlt))
   have HTK : Hid (l.take (k + 1) = l.take k ++ [l[k]]) := List.take_succ_eq_append_getElem hlt
   have HLT : Hid ((l.take k).length = k) := by show _ = _; rw [List.length_take]; omega
   generalize l[k] = c at x0 x1 x2 HFX HTK
   obtain ⟨kd, n, t⟩ := c
   simp only at x0 x1 x2 HFX
   generalize l.take k = P at HOWN HTK HLT ⊢
   have GC := xh (fun w => yy61 (bstr t) w (by rw [bstr_size]; have := HFX.out; omega))
   have hr := cm_new wr kd n t
   have HR := xh hr
   have HB1 : Hid (Below wr.heap.size wr (wr.alloc (.cells #[.int .i64 kd, .int .i64 n, .string (bstr t)] 51))) := (Below.refl _ _).alloc (Nat.le_refl _) _
   have r0 := (cm_row hr).2.2
   clear hr
   go_wp2_with fail
   refine (GC.out _).mono ?_
   rintro e w2 ⟨rfl, hb2⟩
   have hr := HR.out.of_block (hb2.block _ HR.out.lt)
   have y2 := (cm_row hr).2.2
   have yf := hr.frozen 2
   have hr2 := hr.set 2 (.string (bstr t))
   have z0 := hr2.cell (i := 0) (by omega)
   have z1 := hr2.cell (i := 1) (by omega)
   have z2 := hr2.cell (i := 2) (by omega)
   have HB2 : Hid (Below wr.heap.size wr (w2.setCell ⟨wr.heap.size, 2, none⟩ (.string (bstr t)))) := (HB1.out.trans (hb2.mono HB1.out.size)).setCell (by show wr.heap.size ≤ wr.heap.size; omega) _
   have z0' : (w2.setCell ⟨wr.heap.size, 2, none⟩ (.string (bstr t))).cell? ⟨wr.heap.size, 0, none⟩ = some (.int .i64 kd) := z0
   have z1' : (w2.setCell ⟨wr.heap.size, 2, none⟩ (.string (bstr t))).cell? ⟨wr.heap.size, 1, none⟩ = some (.int .i64 n) := z1
   have z2' : (w2.setCell ⟨wr.heap.size, 2, none⟩ (.string (bstr t))).cell? ⟨wr.heap.size, 2, none⟩ = some (.string (bstr t)) := z2
   have HOW2 := xh (own_below HOWN.out HB2.out)
   have HUP : Hid (g + 2 ≤ (w2.setCell ⟨wr.heap.size, 2, none⟩ (.string (bstr t))).heap.size) := Nat.le_trans HUPW.out HB2.out.size
   have HBW : Hid (Below (g + 2) W0 (w2.setCell ⟨wr.heap.size, 2, none⟩ (.string (bstr t)))) := HB.out.trans (HB2.out.mono HUPW.out)
   clear hr hr2 hb2 x0 x1 x2 r0 z0 z1 z2
   go_wp2_with (at_builtin
                go_loud (refine yy66 rfl (.tmp 17) (.tmp 19) rfl (g + 2) (.slice A0 P.length c0) P ⟨kd, n, t⟩ rfl HOW2.out HUP.out (Eq.trans (rfl : _ = Value.slice (some ⟨w2.heap.size, 0, none⟩) 1 1) (by simp [World.setCell])) (by have := HLT.out; omega) ?_)
                intro out' A5 c5 w5 hout hown hbel
                have HOUT := xh hout
                have HOWN5 := xh hown
                have HBEL := xh (HBW.out.trans hbel)
                clear hout hown hbel)
   go_roundw
   case rel => exact ⟨k + 1, A5, c5, by omega, by go_num, by rw [HTK.out, ← HOUT.out], xh (by rw [HTK.out, ← HOUT.out]; exact HOWN5.out), HBEL⟩
   case measure => simp [intOf]; omega
  ·have hke : l.take k = l := List.take_of_length_le (by omega)
   rw [hke] at HOWN ⊢
   clear hke
   obtain ⟨y0, y1, y2, y3, y4, y5⟩ := yy11 HRA.out
   go_wp2_with fail
   refine (GN.out _).mono ?_
   rintro e v2 ⟨rfl, hb2⟩
   have HOW2 := xh (own_below HOWN.out hb2)
   have HRA2 := xh (HRA.out.of_block (hb2.block _ HRA.out.lt))
   have HRB2 := xh (HRB.out.of_block (hb2.block _ HRB.out.lt))
   have HBG2 : Hid (Below g w v2) := xh (HBG.out.trans (hb2.mono (by have := HUPW.out; omega)))
   clear y0 y1 y2 y3 y4 y5 hb2 HRA HRB HBG HOWN
   have hf3 := HRA2.out.frozen 3
   have h3 := HRA2.out.cell (i := 3) (by omega)
   have hs1 := HRA2.out.set 3 (.string (bstr an))
   have hf5 := hs1.frozen 5
   have h5 := hs1.cell (i := 5) (by omega)
   have hs2 := hs1.set 5 (.slice A0 l.length c0)
   have hrow : World.rowIs ((v2.setCell ⟨g, 3, none⟩ (.string (bstr an))).setCell ⟨g, 5, none⟩ (.slice A0 l.length c0)) g 46 6 (sixV (.int .i64 ak) (.int .i64 ai) (.int .i64 ap) (.string (bstr an)) (.bool ad) (.slice A0 l.length c0)) := hs2.congr fun i hi => by rcases (show i = 0 ∨ i = 1 ∨ i = 2 ∨ i = 3 ∨ i = 4 ∨ i = 5 by omega) with rfl | rfl | rfl | rfl | rfl | rfl <;> rfl
   have HRA3 := xh hrow
   have HRB3 := xh ((HRB2.out.setOther (a := ⟨g, 3, none⟩) (by show g + 1 ≠ g; omega) (.string (bstr an))).setOther (a := ⟨g, 5, none⟩) (by show g + 1 ≠ g; omega) (.slice A0 l.length c0))
   have HOW3 := xh (ownsRow_setCell_below (a := ⟨g, 5, none⟩) (ownsRow_setCell_below (a := ⟨g, 3, none⟩) HOW2.out (by show g < g + 2; omega) (.string (bstr an))) (by show g < g + 2; omega) (.slice A0 l.length c0))
   have HBG3 := xh ((HBG2.out.setCell (p := ⟨g, 3, none⟩) (Nat.le_refl g) (.string (bstr an))).setCell (p := ⟨g, 5, none⟩) (Nat.le_refl g) (.slice A0 l.length c0))
   clear hs1 hs2 hrow HRA2 HRB2 HOW2 HBG2
   go_upto_region 9 with fail
   generalize (v2.setCell ⟨g, 3, none⟩ (.string (bstr an))).setCell ⟨g, 5, none⟩ (.slice A0 l.length c0) = v3 at HRA3 HRB3 HOW3 HBG3 ⊢
   clear hf3 h3 hf5 h5
   obtain ⟨y0, y1, y2, y3, y4, y5⟩ := yy11 HRA3.out
   obtain ⟨⟨a0, f0⟩, ⟨a1, f1⟩, ⟨a2, f2⟩, ⟨a3, f3⟩, ⟨a4, f4⟩, ⟨a5, f5⟩, hres⟩ := yy482 HRB3.out (.int .i64 ak) (.int .i64 ai) (.int .i64 ap) (.string (bstr an)) (.bool ad) (.slice A0 l.length c0)
   have HRES := xh (yy625 hres)
   clear hres
   go_wp2
   refine bodyPost_ret (results_cell_row rfl _ _ (g + 1) 46 #[.int .i64 ak, .int .i64 ai, .int .i64 ap, .string (bstr an), .bool ad, .slice A0 l.length c0] (0, 0) _ rfl HRES.out Tryd.underlying46 rfl (by kernel_rfl)) rfl ?_
   have hroom := yy195 HOW3.out
   refine ⟨⟨A0, c0, rfl, hroom.1, hroom.2, ?_⟩, ?_⟩
   ·exact yy34 (yy483 HOW3.out (by show g + 1 < g + 2; omega) _ _ _ _ _ _) (by omega)
   ·exact yy250 HBG3.out (Nat.le_succ g) _ _ _ _ _ _
def getK (ks : List OneK) (id : Int) : Option OneK := ks.find? fun k => decide (k.id = id)
def GetRes (w' : World) (r : Option OneK) (e : Ending) : Prop :=
 ∃ (y : OneV) (b : Bool), e = .returned (.tuple #[.agg (yy8 y).toArray, .bool b]) ∧ yy6 w' y.opsA y.k.ops ∧ y.Good ∧ ((∃ k, r = some k ∧ y.k = k ∧ b = true) ∨ (r = none ∧ y.k = oneZ 0 ∧ b = false))
theorem yy580 {l : List OneV} {id : Int} {k : Nat} (h : k < l.length) (hb : ∀ y ∈ l.take k, y.k.id ≠ id) (hy : l[k].k.id = id) : getK (l.map (·.k)) id = some l[k].k := by
 unfold getK
 have e : l = l.take k ++ l[k] :: l.drop (k + 1) := by rw [List.getElem_cons_drop, List.take_append_drop]
 generalize l[k] = y at e hy ⊢
 rw [e, List.map_append, List.find?_append]
 have h1 : ((l.take k).map (·.k)).find? (fun q => decide (q.id = id)) = none := List.find?_eq_none.2 fun q hq => by
  obtain ⟨y, hy1, rfl⟩ := List.mem_map.1 hq
  simpa using hb y hy1
 rw [h1, List.map_cons, List.find?_cons, decide_eq_true hy]
 rfl
theorem yy509 {l : List OneV} {id : Int} (hb : ∀ y ∈ l, y.k.id ≠ id) : getK (l.map (·.k)) id = none := by
 unfold getK
 refine List.find?_eq_none.2 fun q hq => ?_
 obtain ⟨y, hy1, rfl⟩ := List.mem_map.1 hq
 simpa using hb y hy1
theorem yy686 : (⟨oneZ 0, none, 0⟩ : OneV).Good := ⟨(by show Fit64 0; unfold Fit64; decide), (by show Fit64 0; unfold Fit64; decide), ⟨fun x hx => (by cases hx), Nat.zero_le _⟩, fun y hy => (by cases hy), Nat.le_refl _, Nat.zero_le _⟩
set_option maxHeartbeats 4000000 in
set_option maxRecDepth 100000 in
theorem yy293 (A : Option Addr) (c : Nat) (l : List OneV) (id : Int) (hl : l.length ≤ 1048576) (hg : ∀ y ∈ l, y.Good ∧ KeyH y.k) (w : World) (hA : OnesAt w A l) :
  Calls Tryd.prog 35 #[.slice A l.length c, .int .i64 id] w fun e w' => GetRes w' (getK (l.map (·.k)) id) e ∧ Below w.heap.size w w' := by
 have HA := xh hA
 have HG := xh hg
 clear hA hg
 obtain ⟨K, HK⟩ : ∃ x, Hid (getK (l.map (·.k)) id = x) := ⟨_, xh rfl⟩
 rw [HK.out]
 have hz := yy32 w 48 (.int .i64 0) (.slice none 0 0) (.bool false) (.bool false) (.bool false) (.bool false) (.int .i64 0) (.string { data := #[] })
 have hb0 : Below w.heap.size w (w.alloc (.cells #[.int .i64 0, .slice none 0 0, .bool false, .bool false, .bool false, .bool false, .int .i64 0, .string { data := #[] }] 48)) := (Below.refl _ _).alloc (Nat.le_refl _) _
 obtain ⟨g, hgg⟩ : ∃ g, g = w.heap.size := ⟨_, rfl⟩
 obtain ⟨W1, HW1⟩ : ∃ x, Hid (w.alloc (.cells #[.int .i64 0, .slice none 0 0, .bool false, .bool false, .bool false, .bool false, .int .i64 0, .string { data := #[] }] 48) = x) := ⟨_, xh rfl⟩
 rw [HW1.out] at hz hb0
 rw [← hgg] at hz hb0
 have HZ := xh hz
 have HB0 := xh hb0
 have HGG := xh hgg
 clear hz hb0 hgg
 go_enter Tryd.func35, Tryd.ntmps35
 go_wp2
 rw [← HGG.out, HW1.out]
 go_loopw [10] (fun i wr => ∃ k : Nat, k ≤ l.length ∧ i = .int .i64 k ∧ Hid (Below W1.heap.size W1 wr) ∧ Hid (∀ y ∈ l.take k, y.k.id ≠ id)) (fun i _ => l.length - (intOf i).toNat)
 case atStart => exact ⟨0, Nat.zero_le _, rfl, xh (Below.refl _ _), xh (fun y hy => by simp at hy)⟩
 case round =>
  obtain ⟨k, hk, rfl, HBE, HNO⟩ := hrel
  have HBW : Hid (Below g w wr) := xh (HB0.out.trans (HBE.out.mono (by rw [HGG.out]; exact HB0.out.size)))
  have HZ1 := xh (HZ.out.of_block (HBE.out.block _ HZ.out.lt))
  by_cases hlt : k < l.length
  ·have hltI : (k : Int) < (l.length : Int) := by omega
   have hAw := HA.out.below (by rw [← HGG.out]; exact HBW.out)
   obtain ⟨b1, o1, rfl, _⟩ := hAw.form (by omega)
   obtain ⟨x0, x1, x2, x3, x4, x5, x6, x7⟩ := hAw.at_ hlt
   have hgk := HG.out _ (List.getElem_mem hlt)
   have HCK := xh (hAw.2 _ (List.getElem_mem hlt))
   have HYES : Hid (l[k].k.id = id → K = some l[k].k) := xh (fun h => by rw [← HK.out]; exact yy580 hlt HNO.out h)
   have HNX : Hid (l[k].k.id ≠ id → ∀ y ∈ l.take (k + 1), y.k.id ≠ id) := xh (fun h y hy => by
    rw [List.take_succ_eq_append_getElem hlt] at hy
    rcases List.mem_append.1 hy with hy | hy
    ·exact HNO.out y hy
    ·rw [List.mem_singleton.1 hy]; exact h)
   have HGK := xh hgk
   clear hgk hAw
   generalize l[k] = y at x0 x1 x2 x3 x4 x5 x6 x7 HCK HYES HNX HGK
   have HZ2 := xh (HZ1.out.alloc (Obj.cells (yy8 y).toArray 48))
   have HBA : Hid (Below wr.heap.size wr (wr.alloc (.cells (yy8 y).toArray 48))) := xh ((Below.refl _ _).alloc (Nat.le_refl _) _)
   unfold yy8 at HZ2 HBA
   by_cases hid : y.k.id = id
   ·have e1 : (y.k.id == id) = true := beq_iff_eq.2 hid
    have HID := xh (HYES.out hid)
    have GO := xh (fun (w' : World) (h : Below wr.heap.size wr w') => yy81 y HGK.out.1 HGK.out.2 w' (HCK.out.below h))
    unfold yy8 at GO
    clear hid HYES HNX
    go_wp2_with fail
    refine (GO.out _ HBA.out).mono ?_
    rintro e w3 ⟨⟨A2, c2, rfl, h1, h2, hown⟩, hb3⟩
    have hz3 := HZ2.out.of_block (hb3.block _ HZ2.out.lt)
    obtain ⟨⟨a0, f0⟩, ⟨a1, f1⟩, ⟨a2, f2⟩, ⟨a3, f3⟩, ⟨a4, f4⟩, ⟨a5, f5⟩, ⟨a6, f6⟩, ⟨a7, f7⟩, hres⟩ := yy51 hz3 (.int .i64 y.k.id) (.slice A2 y.k.ops.length c2) (.bool y.k.edited) (.bool y.k.removed) (.bool y.k.created) (.bool y.k.moved) (.int .i64 y.k.parent) (.string (bstr y.k.name))
    have HRES := xh (yy68 hres)
    have hgw : g ≤ wr.heap.size := by rw [HGG.out]; exact HBW.out.size
    have hbb := (HBW.out.trans (HBA.out.mono hgw)).trans (hb3.mono (Nat.le_trans hgw HBA.out.size))
    have HBF : Hid (Below g w _) := xh (yy218 hbb (Nat.le_refl g) (.int .i64 y.k.id) (.slice A2 y.k.ops.length c2) (.bool y.k.edited) (.bool y.k.removed) (.bool y.k.created) (.bool y.k.moved) (.int .i64 y.k.parent) (.string (bstr y.k.name)))
    have hgl : g < wr.heap.size := HZ1.out.lt
    have hgl2 : g < (wr.alloc (.cells #[.int .i64 y.k.id, .slice y.opsA y.k.ops.length y.opsC, .bool y.k.edited, .bool y.k.removed, .bool y.k.created, .bool y.k.moved, .int .i64 y.k.parent, .string (bstr y.k.name)] 48)).heap.size := Nat.lt_of_lt_of_le hgl HBA.out.size
    have HCO : Hid (yy6 _ A2 y.k.ops) := xh (yy4.of_own (ownsRow_setCell_below (a := ⟨g, 7, none⟩) (ownsRow_setCell_below (a := ⟨g, 6, none⟩) (ownsRow_setCell_below (a := ⟨g, 5, none⟩) (ownsRow_setCell_below (a := ⟨g, 4, none⟩) (ownsRow_setCell_below (a := ⟨g, 3, none⟩) (ownsRow_setCell_below (a := ⟨g, 2, none⟩) (ownsRow_setCell_below (a := ⟨g, 1, none⟩) (ownsRow_setCell_below (a := ⟨g, 0, none⟩) hown hgl2 (.int .i64 y.k.id)) hgl2 (.slice A2 y.k.ops.length c2)) hgl2 (.bool y.k.edited)) hgl2 (.bool y.k.removed)) hgl2 (.bool y.k.created)) hgl2 (.bool y.k.moved)) hgl2 (.int .i64 y.k.parent)) hgl2 (.string (bstr y.k.name))))
    have HRM : Hid (y.k.ops.length ≤ c2 ∧ c2 ≤ maxLen) := xh ⟨h1, h2⟩
    clear hz3 hres hb3 h1 h2 hown hbb hgl hgl2 hgw
    go_wp2
    refine bodyPost_ret (yy42 rfl _ _ g 48 #[.int .i64 y.k.id, .slice A2 y.k.ops.length c2, .bool y.k.edited, .bool y.k.removed, .bool y.k.created, .bool y.k.moved, .int .i64 y.k.parent, .string (bstr y.k.name)] (0, 0) _ rfl HRES.out Tryd.underlying48 rfl (by kernel_rfl)) rfl ?_
    obtain ⟨q1, q2, q3, q4, q5, q6⟩ := HGK.out.1
    exact ⟨⟨⟨y.k, A2, c2⟩, true, rfl, HCO.out, ⟨q1, q2, q3, q4, HRM.out.1, HRM.out.2⟩, .inl ⟨_, HID.out, rfl, rfl⟩⟩, by rw [← HGG.out]; exact HBF.out⟩
   ·have e1 : (y.k.id == id) = false := xn hid
    have HN1 := xh (HNX.out hid)
    have HBN : Hid (Below W1.heap.size W1 _) := xh (HBE.out.trans (HBA.out.mono HBE.out.size))
    clear hid HYES HNX
    go_wp2
    go_roundw
    case rel => exact ⟨k + 1, by omega, by go_num, HBN, HN1⟩
    case measure => simp [intOf]; omega
  ·obtain rfl : k = l.length := by omega
   have hltI : ¬ (l.length : Int) < (l.length : Int) := by omega
   have HF : Hid (K = none) := xh (by
    rw [← HK.out]
    refine yy509 fun y hy => HNO.out y ?_
    rw [List.take_length]; exact hy)
   obtain ⟨⟨a0, f0⟩, ⟨a1, f1⟩, ⟨a2, f2⟩, ⟨a3, f3⟩, ⟨a4, f4⟩, ⟨a5, f5⟩, ⟨a6, f6⟩, ⟨a7, f7⟩, hres⟩ := yy51 HZ1.out (.int .i64 0) (.slice none 0 0) (.bool false) (.bool false) (.bool false) (.bool false) (.int .i64 0) (.string { data := #[] })
   have HRES := xh (yy68 hres)
   have HBF : Hid (Below g w _) := xh (yy218 HBW.out (Nat.le_refl g) (.int .i64 0) (.slice none 0 0) (.bool false) (.bool false) (.bool false) (.bool false) (.int .i64 0) (.string { data := #[] }))
   clear hres
   go_wp2
   refine bodyPost_ret (yy42 rfl _ _ g 48 #[.int .i64 0, .slice none 0 0, .bool false, .bool false, .bool false, .bool false, .int .i64 0, .string { data := #[] }] (0, 0) _ rfl HRES.out Tryd.underlying48 rfl (by kernel_rfl)) rfl ?_
   exact ⟨⟨⟨oneZ 0, none, 0⟩, false, rfl, .inl rfl, yy686, .inr ⟨HF.out, rfl, rfl⟩⟩, by rw [← HGG.out]; exact HBF.out⟩
end Go.Proofs.YtjpjdkdbgjipnaaDoor
