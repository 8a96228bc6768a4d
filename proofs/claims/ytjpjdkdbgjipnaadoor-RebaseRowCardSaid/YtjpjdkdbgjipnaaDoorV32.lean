/- The landed effect's with: what was done, and one act more. Condition: no slice and no text is longer than memory. -/
import Derived.Test.YtjpjdkdbgjipnaaDoorV47
import Derived.Test.YtjpjdkdbgjipnaaDoorV24
import Derived.Test.YtjpjdkdbgjipnaaDoorV43
import Derived.Deep.CutRange
namespace Go.Proofs.YtjpjdkdbgjipnaaDoor
open Go.RowKit Go.Deep
def withV (x : OneV) (a : ActV) : OneV :=
 if a.kind = 1 then { x with k := { x.k with created := true, parent := a.parent, name := a.name } } else if a.kind = 2 then { x with k := { x.k with removed := true } } else
  if a.kind = 3 then { x with k := { x.k with moved := true, parent := a.parent, name := a.name } } else if a.kind = 4 then ⟨{ x.k with edited := true, ops := a.ops }, a.opsA, a.opsC⟩ else x
theorem yy749 {x : OneV} {a : ActV} (h : a.id = x.k.id) : (withV x a).k = yy70 x.k a := by
 unfold withV yy70
 rw [if_neg (show ¬ a.id ≠ x.k.id from fun e => e h)]
 by_cases k1 : a.kind = 1
 ·rw [if_pos k1, if_pos k1]
 rw [if_neg k1, if_neg k1]
 by_cases k2 : a.kind = 2
 ·rw [if_pos k2, if_pos k2]
 rw [if_neg k2, if_neg k2]
 by_cases k3 : a.kind = 3
 ·rw [if_pos k3, if_pos k3]
 rw [if_neg k3, if_neg k3]
 by_cases k4 : a.kind = 4
 ·rw [if_pos k4, if_pos k4]
 rw [if_neg k4, if_neg k4]
theorem yy531 {x : OneV} {a : ActV} (hx : x.Good) (ha : a.Good) : (withV x a).Good := by
 obtain ⟨h1, h2, h3, h4, h5, h6⟩ := hx
 obtain ⟨a1, a2, a3, a4, a5, a6, a7⟩ := ha
 unfold withV
 split
 ·exact ⟨h1, a3, a4, h4, h5, h6⟩
 split
 ·exact ⟨h1, h2, h3, h4, h5, h6⟩
 split
 ·exact ⟨h1, a3, a4, h4, h5, h6⟩
 split
 ·exact ⟨h1, h2, h3, a5, a6, a7⟩
 ·exact ⟨h1, h2, h3, h4, h5, h6⟩
theorem yy449 {w : World} {x : OneV} {a : ActV} (hx : yy6 w x.opsA x.k.ops) (ha : yy6 w a.opsA a.ops) : yy6 w (withV x a).opsA (withV x a).k.ops := by
 unfold withV
 split
 ·exact hx
 split
 ·exact hx
 split
 ·exact hx
 split
 ·exact ha
 ·exact hx
theorem yy105 {g h : Nat} (hne : h ≠ g) (w : World) (i : Nat) (v : Value) : (yy18 [h]).r w (w.setCell ⟨g, i, none⟩ v) :=
 yy125 (by simp) (Below.heap_setCell w ⟨g, i, none⟩ v h hne)
set_option maxHeartbeats 8000000 in
set_option maxRecDepth 100000 in
theorem yy450 (x : OneV) (a : ActV) (w : World) :
  Calls Tryd.prog 40 #[.agg (yy8 x).toArray, .agg (yy0 a).toArray] w fun e w' => e = .returned (.agg (yy8 (withV x a)).toArray) ∧ Below w.heap.size w w' := by
 obtain ⟨⟨xi, xo, x2, x3, x4, x5, xp, xn⟩, xA, xC⟩ := x
 obtain ⟨ak, ai, ap, an, ad, aA, aC, ao⟩ := a
 obtain ⟨g, hg⟩ : ∃ g, g = w.heap.size := ⟨_, rfl⟩
 by_cases k1 : ak = 1
 ·subst k1
  rw [withV, if_pos rfl]
  unfold yy8 yy0
  simp only
  have hyk := yy11 ((yy62 (w.alloc (.cells #[.int .i64 xi, .slice xA xo.length xC, .bool x2, .bool x3, .bool x4, .bool x5, .int .i64 xp, .string (bstr xn)] 48)) 46 (.int .i64 1) (.int .i64 ai) (.int .i64 ap) (.string (bstr an)) (.bool ad) (.slice aA ao.length aC)).alloc (Obj.cells #[.int .i64 0, .slice none 0 0, .bool false, .bool false, .bool false, .bool false, .int .i64 0, .string { data := #[] }] 48))
  rw [World.size_alloc] at hyk
  have yk := hyk.1
  clear hyk
  have HR1 := xh (((yy32 w 48 (.int .i64 xi) (.slice xA xo.length xC) (.bool x2) (.bool x3) (.bool x4) (.bool x5) (.int .i64 xp) (.string (bstr xn))).alloc (Obj.cells #[.int .i64 1, .int .i64 ai, .int .i64 ap, .string (bstr an), .bool ad, .slice aA ao.length aC] 46)).alloc (Obj.cells #[.int .i64 0, .slice none 0 0, .bool false, .bool false, .bool false, .bool false, .int .i64 0, .string { data := #[] }] 48))
  have HR2 := xh ((yy62 (w.alloc (.cells #[.int .i64 xi, .slice xA xo.length xC, .bool x2, .bool x3, .bool x4, .bool x5, .int .i64 xp, .string (bstr xn)] 48)) 46 (.int .i64 1) (.int .i64 ai) (.int .i64 ap) (.string (bstr an)) (.bool ad) (.slice aA ao.length aC)).alloc (Obj.cells #[.int .i64 0, .slice none 0 0, .bool false, .bool false, .bool false, .bool false, .int .i64 0, .string { data := #[] }] 48))
  have HR3 := xh (yy32 ((w.alloc (.cells #[.int .i64 xi, .slice xA xo.length xC, .bool x2, .bool x3, .bool x4, .bool x5, .int .i64 xp, .string (bstr xn)] 48)).alloc (.cells #[.int .i64 1, .int .i64 ai, .int .i64 ap, .string (bstr an), .bool ad, .slice aA ao.length aC] 46)) 48 (.int .i64 0) (.slice none 0 0) (.bool false) (.bool false) (.bool false) (.bool false) (.int .i64 0) (.string { data := #[] }))
  rw [World.size_alloc, ← hg] at HR2
  rw [World.size_alloc, World.size_alloc, ← hg] at HR3
  rw [← hg] at HR1
  have HB1 : Hid (Below g w (((w.alloc (.cells #[.int .i64 xi, .slice xA xo.length xC, .bool x2, .bool x3, .bool x4, .bool x5, .int .i64 xp, .string (bstr xn)] 48)).alloc (.cells #[.int .i64 1, .int .i64 ai, .int .i64 ap, .string (bstr an), .bool ad, .slice aA ao.length aC] 46)).alloc (.cells #[.int .i64 0, .slice none 0 0, .bool false, .bool false, .bool false, .bool false, .int .i64 0, .string { data := #[] }] 48))) := xh (by rw [hg]; exact (((Below.refl _ _).alloc (Nat.le_refl _) _).alloc (by simp) _).alloc (by simp; omega) _)
  have HG := xh hg
  clear hg
  obtain ⟨y0, y1, y2, y3, y4, y5⟩ := yy11 HR2.out
  obtain ⟨W0, HW0⟩ : ∃ x, Hid ((((w.alloc (.cells #[.int .i64 xi, .slice xA xo.length xC, .bool x2, .bool x3, .bool x4, .bool x5, .int .i64 xp, .string (bstr xn)] 48)).alloc (.cells #[.int .i64 1, .int .i64 ai, .int .i64 ap, .string (bstr an), .bool ad, .slice aA ao.length aC] 46)).alloc (.cells #[.int .i64 0, .slice none 0 0, .bool false, .bool false, .bool false, .bool false, .int .i64 0, .string { data := #[] }] 48)) = x) := ⟨_, xh rfl⟩
  rw [HW0.out] at HR1 HR2 HR3 HB1 y0 y1 y2 y3 y4 y5
  clear y0 y1 y2 y3 y4 y5
  go_enter Tryd.func40, Tryd.ntmps40
  go_upto_region 3 with fail
  clear yk
  rw [← HG.out, HW0.out]
  obtain ⟨y0, y1, y2, y3, y4, y5⟩ := yy11 HR2.out
  have e2 : ∀ e : ExtK (yy18 [g + 1]) W0.drew, e.val.cell? ⟨g + 1, 2, none⟩ = some (.int .i64 ap) := fun e => (cell_of_block (e.property.2 (g + 1) (by simp)) 2).trans y2
  have e3 : ∀ e : ExtK (yy18 [g + 1]) W0.drew, e.val.cell? ⟨g + 1, 3, none⟩ = some (.string (bstr an)) := fun e => (cell_of_block (e.property.2 (g + 1) (by simp)) 3).trans y3
  clear y0 y1 y2 y3 y4 y5
  refine yy28 (yy18 [g + 1]) [(0, true), (1, true), (2, true), (3, true), (4, true), (5, false), (6, true), (7, false), (8, true), (9, false)] (by kernel_rfl) (by kernel_rfl) (fun _ _ d _ _ h => by cases d <;> exact h) ?_
  replace HR1 := xh HR1.out.drew
  replace HR2 := xh HR2.out.drew
  replace HR3 := xh HR3.out.drew
  replace HB1 := xh HB1.out.drew
  generalize World.drew _ = wd at HR1 HR2 HR3 HB1 e2 e3 ⊢
  simp only [picked, xmc, xmn, xgs, xgz, xgd]
  repeat (refine yy44 (by rfl) (fun K hK => ?_); go_big_quiet_op; refine hK _ ?_; clear hK K)
  clear e2 e3
  have hc4 := HR1.out.cell (i := 4) (by omega)
  have hf4 := HR1.out.frozen 4
  refine yy165 (by rfl) (fun K hK => ?_)
  go_simp
  refine hK _ _ (yy105 (show g + 1 ≠ g by omega) _ 4 (.bool true)) ?_
  clear hK K hc4 hf4
  replace HR1 := xh (HR1.out.set 4 (.bool true))
  replace HR2 := xh (HR2.out.setOther (a := ⟨g, 4, none⟩) (by show g + 1 ≠ g; omega) (.bool true))
  replace HR3 := xh (HR3.out.setOther (a := ⟨g, 4, none⟩) (by show g + 2 ≠ g; omega) (.bool true))
  replace HB1 := xh (HB1.out.setCell (p := ⟨g, 4, none⟩) (Nat.le_refl g) (.bool true))
  generalize World.setCell _ _ _ = wd at HR1 HR2 HR3 HB1 ⊢
  repeat (refine yy44 (by rfl) (fun K hK => ?_); go_big_quiet_op; refine hK _ ?_; clear hK K)
  have hc6 := HR1.out.cell (i := 6) (by omega)
  have hf6 := HR1.out.frozen 6
  refine yy165 (by rfl) (fun K hK => ?_)
  go_simp
  refine hK _ _ (yy105 (show g + 1 ≠ g by omega) _ 6 (.int .i64 ap)) ?_
  clear hK K hc6 hf6
  replace HR1 := xh (HR1.out.set 6 (.int .i64 ap))
  replace HR2 := xh (HR2.out.setOther (a := ⟨g, 6, none⟩) (by show g + 1 ≠ g; omega) (.int .i64 ap))
  replace HR3 := xh (HR3.out.setOther (a := ⟨g, 6, none⟩) (by show g + 2 ≠ g; omega) (.int .i64 ap))
  replace HB1 := xh (HB1.out.setCell (p := ⟨g, 6, none⟩) (Nat.le_refl g) (.int .i64 ap))
  generalize World.setCell _ _ _ = wd at HR1 HR2 HR3 HB1 ⊢
  repeat (refine yy44 (by rfl) (fun K hK => ?_); go_big_quiet_op; refine hK _ ?_; clear hK K)
  have hc7 := HR1.out.cell (i := 7) (by omega)
  have hf7 := HR1.out.frozen 7
  refine yy165 (by rfl) (fun K hK => ?_)
  go_simp
  refine hK _ _ (yy105 (show g + 1 ≠ g by omega) _ 7 (.string (bstr an))) ?_
  clear hK K hc7 hf7
  replace HR1 := xh (HR1.out.set 7 (.string (bstr an)))
  replace HR2 := xh (HR2.out.setOther (a := ⟨g, 7, none⟩) (by show g + 1 ≠ g; omega) (.string (bstr an)))
  replace HR3 := xh (HR3.out.setOther (a := ⟨g, 7, none⟩) (by show g + 2 ≠ g; omega) (.string (bstr an)))
  replace HB1 := xh (HB1.out.setCell (p := ⟨g, 7, none⟩) (Nat.le_refl g) (.string (bstr an)))
  generalize World.setCell _ _ _ = wd at HR1 HR2 HR3 HB1 ⊢
  refine yy142 ?_
  have hrow : World.rowIs wd g 48 8 (eightV (.int .i64 xi) (.slice xA xo.length xC) (.bool x2) (.bool x3) (.bool true) (.bool x5) (.int .i64 ap) (.string (bstr an))) := HR1.out.congr fun i hi => by rcases (show i = 0 ∨ i = 1 ∨ i = 2 ∨ i = 3 ∨ i = 4 ∨ i = 5 ∨ i = 6 ∨ i = 7 by omega) with rfl | rfl | rfl | rfl | rfl | rfl | rfl | rfl <;> rfl
  obtain ⟨z0, z1, z2, z3, z4, z5, z6, z7⟩ := yy10 hrow
  obtain ⟨⟨a0, f0⟩, ⟨a1, f1⟩, ⟨a2, f2⟩, ⟨a3, f3⟩, ⟨a4, f4⟩, ⟨a5, f5⟩, ⟨a6, f6⟩, ⟨a7, f7⟩, hres⟩ := yy51 HR3.out (.int .i64 xi) (.slice xA xo.length xC) (.bool x2) (.bool x3) (.bool true) (.bool x5) (.int .i64 ap) (.string (bstr an))
  have HRES := xh (yy68 hres)
  clear hrow hres
  go_wp2
  refine bodyPost_ret (results_cell_row rfl _ _ (g + 2) 48 #[.int .i64 xi, .slice xA xo.length xC, .bool x2, .bool x3, .bool true, .bool x5, .int .i64 ap, .string (bstr an)] (0, 0) _ rfl HRES.out Tryd.underlying48 rfl (by kernel_rfl)) rfl ?_
  refine ⟨rfl, ?_⟩
  rw [← HG.out]
  exact ((((((((HB1.out).setCell (p := ⟨g + 2, 0, none⟩) (by show g ≤ g + 2; omega) _).setCell (p := ⟨g + 2, 1, none⟩) (by show g ≤ g + 2; omega) _).setCell (p := ⟨g + 2, 2, none⟩) (by show g ≤ g + 2; omega) _).setCell (p := ⟨g + 2, 3, none⟩) (by show g ≤ g + 2; omega) _).setCell (p := ⟨g + 2, 4, none⟩) (by show g ≤ g + 2; omega) _).setCell (p := ⟨g + 2, 5, none⟩) (by show g ≤ g + 2; omega) _).setCell (p := ⟨g + 2, 6, none⟩) (by show g ≤ g + 2; omega) _).setCell (p := ⟨g + 2, 7, none⟩) (by show g ≤ g + 2; omega) _
 have b1 : (ak == 1) = false := beq_eq_false_iff_ne.2 k1
 by_cases k2 : ak = 2
 ·subst k2
  rw [withV, if_neg (show ¬ (2 : Int) = 1 by decide), if_pos rfl]
  clear k1 b1
  unfold yy8 yy0
  simp only
  have hyk := yy11 ((yy62 (w.alloc (.cells #[.int .i64 xi, .slice xA xo.length xC, .bool x2, .bool x3, .bool x4, .bool x5, .int .i64 xp, .string (bstr xn)] 48)) 46 (.int .i64 2) (.int .i64 ai) (.int .i64 ap) (.string (bstr an)) (.bool ad) (.slice aA ao.length aC)).alloc (Obj.cells #[.int .i64 0, .slice none 0 0, .bool false, .bool false, .bool false, .bool false, .int .i64 0, .string { data := #[] }] 48))
  rw [World.size_alloc] at hyk
  have yk := hyk.1
  clear hyk
  have HR1 := xh (((yy32 w 48 (.int .i64 xi) (.slice xA xo.length xC) (.bool x2) (.bool true) (.bool x4) (.bool x5) (.int .i64 xp) (.string (bstr xn))).alloc (Obj.cells #[.int .i64 2, .int .i64 ai, .int .i64 ap, .string (bstr an), .bool ad, .slice aA ao.length aC] 46)).alloc (Obj.cells #[.int .i64 0, .slice none 0 0, .bool false, .bool false, .bool false, .bool false, .int .i64 0, .string { data := #[] }] 48))
  have HR2 := xh ((yy62 (w.alloc (.cells #[.int .i64 xi, .slice xA xo.length xC, .bool x2, .bool true, .bool x4, .bool x5, .int .i64 xp, .string (bstr xn)] 48)) 46 (.int .i64 2) (.int .i64 ai) (.int .i64 ap) (.string (bstr an)) (.bool ad) (.slice aA ao.length aC)).alloc (Obj.cells #[.int .i64 0, .slice none 0 0, .bool false, .bool false, .bool false, .bool false, .int .i64 0, .string { data := #[] }] 48))
  have HR3 := xh (yy32 ((w.alloc (.cells #[.int .i64 xi, .slice xA xo.length xC, .bool x2, .bool true, .bool x4, .bool x5, .int .i64 xp, .string (bstr xn)] 48)).alloc (.cells #[.int .i64 2, .int .i64 ai, .int .i64 ap, .string (bstr an), .bool ad, .slice aA ao.length aC] 46)) 48 (.int .i64 0) (.slice none 0 0) (.bool false) (.bool false) (.bool false) (.bool false) (.int .i64 0) (.string { data := #[] }))
  rw [World.size_alloc, ← hg] at HR2
  rw [World.size_alloc, World.size_alloc, ← hg] at HR3
  rw [← hg] at HR1
  have HB1 : Hid (Below g w (((w.alloc (.cells #[.int .i64 xi, .slice xA xo.length xC, .bool x2, .bool true, .bool x4, .bool x5, .int .i64 xp, .string (bstr xn)] 48)).alloc (.cells #[.int .i64 2, .int .i64 ai, .int .i64 ap, .string (bstr an), .bool ad, .slice aA ao.length aC] 46)).alloc (.cells #[.int .i64 0, .slice none 0 0, .bool false, .bool false, .bool false, .bool false, .int .i64 0, .string { data := #[] }] 48))) := xh (by rw [hg]; exact (((Below.refl _ _).alloc (Nat.le_refl _) _).alloc (by simp) _).alloc (by simp; omega) _)
  have HG := xh hg
  clear hg
  obtain ⟨y0, y1, y2, y3, y4, y5⟩ := yy11 HR2.out
  obtain ⟨W0, HW0⟩ : ∃ x, Hid ((((w.alloc (.cells #[.int .i64 xi, .slice xA xo.length xC, .bool x2, .bool true, .bool x4, .bool x5, .int .i64 xp, .string (bstr xn)] 48)).alloc (.cells #[.int .i64 2, .int .i64 ai, .int .i64 ap, .string (bstr an), .bool ad, .slice aA ao.length aC] 46)).alloc (.cells #[.int .i64 0, .slice none 0 0, .bool false, .bool false, .bool false, .bool false, .int .i64 0, .string { data := #[] }] 48)) = x) := ⟨_, xh rfl⟩
  rw [HW0.out] at HR1 HR2 HR3 HB1 y0 y1 y2 y3 y4 y5
  clear y0 y1 y2 y3 y4 y5
  go_enter Tryd.func40, Tryd.ntmps40
  go_upto_region 10 with fail
  clear yk
  rw [← HG.out, HW0.out]
  clear HW0
  generalize W0 = wd at HR1 HR2 HR3 HB1 ⊢
  have hrow : World.rowIs wd g 48 8 (eightV (.int .i64 xi) (.slice xA xo.length xC) (.bool x2) (.bool true) (.bool x4) (.bool x5) (.int .i64 xp) (.string (bstr xn))) := HR1.out.congr fun i hi => by rcases (show i = 0 ∨ i = 1 ∨ i = 2 ∨ i = 3 ∨ i = 4 ∨ i = 5 ∨ i = 6 ∨ i = 7 by omega) with rfl | rfl | rfl | rfl | rfl | rfl | rfl | rfl <;> rfl
  obtain ⟨z0, z1, z2, z3, z4, z5, z6, z7⟩ := yy10 hrow
  obtain ⟨⟨a0, f0⟩, ⟨a1, f1⟩, ⟨a2, f2⟩, ⟨a3, f3⟩, ⟨a4, f4⟩, ⟨a5, f5⟩, ⟨a6, f6⟩, ⟨a7, f7⟩, hres⟩ := yy51 HR3.out (.int .i64 xi) (.slice xA xo.length xC) (.bool x2) (.bool true) (.bool x4) (.bool x5) (.int .i64 xp) (.string (bstr xn))
  have HRES := xh (yy68 hres)
  clear hrow hres
  go_wp2
  refine bodyPost_ret (results_cell_row rfl _ _ (g + 2) 48 #[.int .i64 xi, .slice xA xo.length xC, .bool x2, .bool true, .bool x4, .bool x5, .int .i64 xp, .string (bstr xn)] (0, 0) _ rfl HRES.out Tryd.underlying48 rfl (by kernel_rfl)) rfl ?_
  refine ⟨rfl, ?_⟩
  rw [← HG.out]
  exact ((((((((HB1.out).setCell (p := ⟨g + 2, 0, none⟩) (by show g ≤ g + 2; omega) _).setCell (p := ⟨g + 2, 1, none⟩) (by show g ≤ g + 2; omega) _).setCell (p := ⟨g + 2, 2, none⟩) (by show g ≤ g + 2; omega) _).setCell (p := ⟨g + 2, 3, none⟩) (by show g ≤ g + 2; omega) _).setCell (p := ⟨g + 2, 4, none⟩) (by show g ≤ g + 2; omega) _).setCell (p := ⟨g + 2, 5, none⟩) (by show g ≤ g + 2; omega) _).setCell (p := ⟨g + 2, 6, none⟩) (by show g ≤ g + 2; omega) _).setCell (p := ⟨g + 2, 7, none⟩) (by show g ≤ g + 2; omega) _
 have b2 : (ak == 2) = false := beq_eq_false_iff_ne.2 k2
 by_cases k3 : ak = 3
 ·subst k3
  rw [withV, if_neg (show ¬ (3 : Int) = 1 by decide), if_neg (show ¬ (3 : Int) = 2 by decide), if_pos rfl]
  clear k1 b1 k2 b2
  unfold yy8 yy0
  simp only
  have hyk := yy11 ((yy62 (w.alloc (.cells #[.int .i64 xi, .slice xA xo.length xC, .bool x2, .bool x3, .bool x4, .bool x5, .int .i64 xp, .string (bstr xn)] 48)) 46 (.int .i64 3) (.int .i64 ai) (.int .i64 ap) (.string (bstr an)) (.bool ad) (.slice aA ao.length aC)).alloc (Obj.cells #[.int .i64 0, .slice none 0 0, .bool false, .bool false, .bool false, .bool false, .int .i64 0, .string { data := #[] }] 48))
  rw [World.size_alloc] at hyk
  have yk := hyk.1
  clear hyk
  have HR1 := xh (((yy32 w 48 (.int .i64 xi) (.slice xA xo.length xC) (.bool x2) (.bool x3) (.bool x4) (.bool x5) (.int .i64 xp) (.string (bstr xn))).alloc (Obj.cells #[.int .i64 3, .int .i64 ai, .int .i64 ap, .string (bstr an), .bool ad, .slice aA ao.length aC] 46)).alloc (Obj.cells #[.int .i64 0, .slice none 0 0, .bool false, .bool false, .bool false, .bool false, .int .i64 0, .string { data := #[] }] 48))
  have HR2 := xh ((yy62 (w.alloc (.cells #[.int .i64 xi, .slice xA xo.length xC, .bool x2, .bool x3, .bool x4, .bool x5, .int .i64 xp, .string (bstr xn)] 48)) 46 (.int .i64 3) (.int .i64 ai) (.int .i64 ap) (.string (bstr an)) (.bool ad) (.slice aA ao.length aC)).alloc (Obj.cells #[.int .i64 0, .slice none 0 0, .bool false, .bool false, .bool false, .bool false, .int .i64 0, .string { data := #[] }] 48))
  have HR3 := xh (yy32 ((w.alloc (.cells #[.int .i64 xi, .slice xA xo.length xC, .bool x2, .bool x3, .bool x4, .bool x5, .int .i64 xp, .string (bstr xn)] 48)).alloc (.cells #[.int .i64 3, .int .i64 ai, .int .i64 ap, .string (bstr an), .bool ad, .slice aA ao.length aC] 46)) 48 (.int .i64 0) (.slice none 0 0) (.bool false) (.bool false) (.bool false) (.bool false) (.int .i64 0) (.string { data := #[] }))
  rw [World.size_alloc, ← hg] at HR2
  rw [World.size_alloc, World.size_alloc, ← hg] at HR3
  rw [← hg] at HR1
  have HB1 : Hid (Below g w (((w.alloc (.cells #[.int .i64 xi, .slice xA xo.length xC, .bool x2, .bool x3, .bool x4, .bool x5, .int .i64 xp, .string (bstr xn)] 48)).alloc (.cells #[.int .i64 3, .int .i64 ai, .int .i64 ap, .string (bstr an), .bool ad, .slice aA ao.length aC] 46)).alloc (.cells #[.int .i64 0, .slice none 0 0, .bool false, .bool false, .bool false, .bool false, .int .i64 0, .string { data := #[] }] 48))) := xh (by rw [hg]; exact (((Below.refl _ _).alloc (Nat.le_refl _) _).alloc (by simp) _).alloc (by simp; omega) _)
  have HG := xh hg
  clear hg
  obtain ⟨y0, y1, y2, y3, y4, y5⟩ := yy11 HR2.out
  obtain ⟨W0, HW0⟩ : ∃ x, Hid ((((w.alloc (.cells #[.int .i64 xi, .slice xA xo.length xC, .bool x2, .bool x3, .bool x4, .bool x5, .int .i64 xp, .string (bstr xn)] 48)).alloc (.cells #[.int .i64 3, .int .i64 ai, .int .i64 ap, .string (bstr an), .bool ad, .slice aA ao.length aC] 46)).alloc (.cells #[.int .i64 0, .slice none 0 0, .bool false, .bool false, .bool false, .bool false, .int .i64 0, .string { data := #[] }] 48)) = x) := ⟨_, xh rfl⟩
  rw [HW0.out] at HR1 HR2 HR3 HB1 y0 y1 y2 y3 y4 y5
  clear y0 y1 y2 y3 y4 y5
  go_enter Tryd.func40, Tryd.ntmps40
  go_upto_region 7 with fail
  clear yk
  rw [← HG.out, HW0.out]
  obtain ⟨y0, y1, y2, y3, y4, y5⟩ := yy11 HR2.out
  have e2 : ∀ e : ExtK (yy18 [g + 1]) W0.drew, e.val.cell? ⟨g + 1, 2, none⟩ = some (.int .i64 ap) := fun e => (cell_of_block (e.property.2 (g + 1) (by simp)) 2).trans y2
  have e3 : ∀ e : ExtK (yy18 [g + 1]) W0.drew, e.val.cell? ⟨g + 1, 3, none⟩ = some (.string (bstr an)) := fun e => (cell_of_block (e.property.2 (g + 1) (by simp)) 3).trans y3
  clear y0 y1 y2 y3 y4 y5
  refine yy28 (yy18 [g + 1]) [(0, true), (1, true), (2, true), (3, true), (4, true), (5, false), (6, true), (7, false), (8, true), (9, false)] (by kernel_rfl) (by kernel_rfl) (fun _ _ d _ _ h => by cases d <;> exact h) ?_
  replace HR1 := xh HR1.out.drew
  replace HR2 := xh HR2.out.drew
  replace HR3 := xh HR3.out.drew
  replace HB1 := xh HB1.out.drew
  generalize World.drew _ = wd at HR1 HR2 HR3 HB1 e2 e3 ⊢
  simp only [picked, xmc, xmn, xgs, xgz, xgd]
  repeat (refine yy44 (by rfl) (fun K hK => ?_); go_big_quiet_op; refine hK _ ?_; clear hK K)
  clear e2 e3
  have hc5 := HR1.out.cell (i := 5) (by omega)
  have hf5 := HR1.out.frozen 5
  refine yy165 (by rfl) (fun K hK => ?_)
  go_simp
  refine hK _ _ (yy105 (show g + 1 ≠ g by omega) _ 5 (.bool true)) ?_
  clear hK K hc5 hf5
  replace HR1 := xh (HR1.out.set 5 (.bool true))
  replace HR2 := xh (HR2.out.setOther (a := ⟨g, 5, none⟩) (by show g + 1 ≠ g; omega) (.bool true))
  replace HR3 := xh (HR3.out.setOther (a := ⟨g, 5, none⟩) (by show g + 2 ≠ g; omega) (.bool true))
  replace HB1 := xh (HB1.out.setCell (p := ⟨g, 5, none⟩) (Nat.le_refl g) (.bool true))
  generalize World.setCell _ _ _ = wd at HR1 HR2 HR3 HB1 ⊢
  repeat (refine yy44 (by rfl) (fun K hK => ?_); go_big_quiet_op; refine hK _ ?_; clear hK K)
  have hc6 := HR1.out.cell (i := 6) (by omega)
  have hf6 := HR1.out.frozen 6
  refine yy165 (by rfl) (fun K hK => ?_)
  go_simp
  refine hK _ _ (yy105 (show g + 1 ≠ g by omega) _ 6 (.int .i64 ap)) ?_
  clear hK K hc6 hf6
  replace HR1 := xh (HR1.out.set 6 (.int .i64 ap))
  replace HR2 := xh (HR2.out.setOther (a := ⟨g, 6, none⟩) (by show g + 1 ≠ g; omega) (.int .i64 ap))
  replace HR3 := xh (HR3.out.setOther (a := ⟨g, 6, none⟩) (by show g + 2 ≠ g; omega) (.int .i64 ap))
  replace HB1 := xh (HB1.out.setCell (p := ⟨g, 6, none⟩) (Nat.le_refl g) (.int .i64 ap))
  generalize World.setCell _ _ _ = wd at HR1 HR2 HR3 HB1 ⊢
  repeat (refine yy44 (by rfl) (fun K hK => ?_); go_big_quiet_op; refine hK _ ?_; clear hK K)
  have hc7 := HR1.out.cell (i := 7) (by omega)
  have hf7 := HR1.out.frozen 7
  refine yy165 (by rfl) (fun K hK => ?_)
  go_simp
  refine hK _ _ (yy105 (show g + 1 ≠ g by omega) _ 7 (.string (bstr an))) ?_
  clear hK K hc7 hf7
  replace HR1 := xh (HR1.out.set 7 (.string (bstr an)))
  replace HR2 := xh (HR2.out.setOther (a := ⟨g, 7, none⟩) (by show g + 1 ≠ g; omega) (.string (bstr an)))
  replace HR3 := xh (HR3.out.setOther (a := ⟨g, 7, none⟩) (by show g + 2 ≠ g; omega) (.string (bstr an)))
  replace HB1 := xh (HB1.out.setCell (p := ⟨g, 7, none⟩) (Nat.le_refl g) (.string (bstr an)))
  generalize World.setCell _ _ _ = wd at HR1 HR2 HR3 HB1 ⊢
  refine yy142 ?_
  have hrow : World.rowIs wd g 48 8 (eightV (.int .i64 xi) (.slice xA xo.length xC) (.bool x2) (.bool x3) (.bool x4) (.bool true) (.int .i64 ap) (.string (bstr an))) := HR1.out.congr fun i hi => by rcases (show i = 0 ∨ i = 1 ∨ i = 2 ∨ i = 3 ∨ i = 4 ∨ i = 5 ∨ i = 6 ∨ i = 7 by omega) with rfl | rfl | rfl | rfl | rfl | rfl | rfl | rfl <;> rfl
  obtain ⟨z0, z1, z2, z3, z4, z5, z6, z7⟩ := yy10 hrow
  obtain ⟨⟨a0, f0⟩, ⟨a1, f1⟩, ⟨a2, f2⟩, ⟨a3, f3⟩, ⟨a4, f4⟩, ⟨a5, f5⟩, ⟨a6, f6⟩, ⟨a7, f7⟩, hres⟩ := yy51 HR3.out (.int .i64 xi) (.slice xA xo.length xC) (.bool x2) (.bool x3) (.bool x4) (.bool true) (.int .i64 ap) (.string (bstr an))
  have HRES := xh (yy68 hres)
  clear hrow hres
  go_wp2
  refine bodyPost_ret (results_cell_row rfl _ _ (g + 2) 48 #[.int .i64 xi, .slice xA xo.length xC, .bool x2, .bool x3, .bool x4, .bool true, .int .i64 ap, .string (bstr an)] (0, 0) _ rfl HRES.out Tryd.underlying48 rfl (by kernel_rfl)) rfl ?_
  refine ⟨rfl, ?_⟩
  rw [← HG.out]
  exact ((((((((HB1.out).setCell (p := ⟨g + 2, 0, none⟩) (by show g ≤ g + 2; omega) _).setCell (p := ⟨g + 2, 1, none⟩) (by show g ≤ g + 2; omega) _).setCell (p := ⟨g + 2, 2, none⟩) (by show g ≤ g + 2; omega) _).setCell (p := ⟨g + 2, 3, none⟩) (by show g ≤ g + 2; omega) _).setCell (p := ⟨g + 2, 4, none⟩) (by show g ≤ g + 2; omega) _).setCell (p := ⟨g + 2, 5, none⟩) (by show g ≤ g + 2; omega) _).setCell (p := ⟨g + 2, 6, none⟩) (by show g ≤ g + 2; omega) _).setCell (p := ⟨g + 2, 7, none⟩) (by show g ≤ g + 2; omega) _
 have b3 : (ak == 3) = false := beq_eq_false_iff_ne.2 k3
 by_cases k4 : ak = 4
 ·subst k4
  rw [withV, if_neg (show ¬ (4 : Int) = 1 by decide), if_neg (show ¬ (4 : Int) = 2 by decide), if_neg (show ¬ (4 : Int) = 3 by decide), if_pos rfl]
  clear k1 b1 k2 b2 k3 b3
  unfold yy8 yy0
  simp only
  have hyk := yy11 ((yy62 (w.alloc (.cells #[.int .i64 xi, .slice xA xo.length xC, .bool x2, .bool x3, .bool x4, .bool x5, .int .i64 xp, .string (bstr xn)] 48)) 46 (.int .i64 4) (.int .i64 ai) (.int .i64 ap) (.string (bstr an)) (.bool ad) (.slice aA ao.length aC)).alloc (Obj.cells #[.int .i64 0, .slice none 0 0, .bool false, .bool false, .bool false, .bool false, .int .i64 0, .string { data := #[] }] 48))
  rw [World.size_alloc] at hyk
  have yk := hyk.1
  clear hyk
  have HR1 := xh (((yy32 w 48 (.int .i64 xi) (.slice xA xo.length xC) (.bool x2) (.bool x3) (.bool x4) (.bool x5) (.int .i64 xp) (.string (bstr xn))).alloc (Obj.cells #[.int .i64 4, .int .i64 ai, .int .i64 ap, .string (bstr an), .bool ad, .slice aA ao.length aC] 46)).alloc (Obj.cells #[.int .i64 0, .slice none 0 0, .bool false, .bool false, .bool false, .bool false, .int .i64 0, .string { data := #[] }] 48))
  have HR2 := xh ((yy62 (w.alloc (.cells #[.int .i64 xi, .slice xA xo.length xC, .bool x2, .bool x3, .bool x4, .bool x5, .int .i64 xp, .string (bstr xn)] 48)) 46 (.int .i64 4) (.int .i64 ai) (.int .i64 ap) (.string (bstr an)) (.bool ad) (.slice aA ao.length aC)).alloc (Obj.cells #[.int .i64 0, .slice none 0 0, .bool false, .bool false, .bool false, .bool false, .int .i64 0, .string { data := #[] }] 48))
  have HR3 := xh (yy32 ((w.alloc (.cells #[.int .i64 xi, .slice xA xo.length xC, .bool x2, .bool x3, .bool x4, .bool x5, .int .i64 xp, .string (bstr xn)] 48)).alloc (.cells #[.int .i64 4, .int .i64 ai, .int .i64 ap, .string (bstr an), .bool ad, .slice aA ao.length aC] 46)) 48 (.int .i64 0) (.slice none 0 0) (.bool false) (.bool false) (.bool false) (.bool false) (.int .i64 0) (.string { data := #[] }))
  rw [World.size_alloc, ← hg] at HR2
  rw [World.size_alloc, World.size_alloc, ← hg] at HR3
  rw [← hg] at HR1
  have HB1 : Hid (Below g w (((w.alloc (.cells #[.int .i64 xi, .slice xA xo.length xC, .bool x2, .bool x3, .bool x4, .bool x5, .int .i64 xp, .string (bstr xn)] 48)).alloc (.cells #[.int .i64 4, .int .i64 ai, .int .i64 ap, .string (bstr an), .bool ad, .slice aA ao.length aC] 46)).alloc (.cells #[.int .i64 0, .slice none 0 0, .bool false, .bool false, .bool false, .bool false, .int .i64 0, .string { data := #[] }] 48))) := xh (by rw [hg]; exact (((Below.refl _ _).alloc (Nat.le_refl _) _).alloc (by simp) _).alloc (by simp; omega) _)
  have HG := xh hg
  clear hg
  obtain ⟨y0, y1, y2, y3, y4, y5⟩ := yy11 HR2.out
  obtain ⟨W0, HW0⟩ : ∃ x, Hid ((((w.alloc (.cells #[.int .i64 xi, .slice xA xo.length xC, .bool x2, .bool x3, .bool x4, .bool x5, .int .i64 xp, .string (bstr xn)] 48)).alloc (.cells #[.int .i64 4, .int .i64 ai, .int .i64 ap, .string (bstr an), .bool ad, .slice aA ao.length aC] 46)).alloc (.cells #[.int .i64 0, .slice none 0 0, .bool false, .bool false, .bool false, .bool false, .int .i64 0, .string { data := #[] }] 48)) = x) := ⟨_, xh rfl⟩
  rw [HW0.out] at HR1 HR2 HR3 HB1 y0 y1 y2 y3 y4 y5
  clear y0 y1 y2 y3 y4 y5
  go_enter Tryd.func40, Tryd.ntmps40
  go_upto_region 9 with fail
  clear yk
  rw [← HG.out, HW0.out]
  obtain ⟨y0, y1, y2, y3, y4, y5⟩ := yy11 HR2.out
  have e5 : ∀ e : ExtK (yy18 [g + 1]) W0.drew, e.val.cell? ⟨g + 1, 5, none⟩ = some (.slice aA ao.length aC) := fun e => (cell_of_block (e.property.2 (g + 1) (by simp)) 5).trans y5
  clear y0 y1 y2 y3 y4 y5
  refine yy28 (yy18 [g + 1]) [(0, true), (1, true), (2, true), (3, false), (4, true), (5, false)] (by kernel_rfl) (by kernel_rfl) (fun _ _ d _ _ h => by cases d <;> exact h) ?_
  replace HR1 := xh HR1.out.drew
  replace HR2 := xh HR2.out.drew
  replace HR3 := xh HR3.out.drew
  replace HB1 := xh HB1.out.drew
  generalize World.drew _ = wd at HR1 HR2 HR3 HB1 e5 ⊢
  simp only [picked, xmc, xmn, xgs, xgz, xgd]
  repeat (refine yy44 (by rfl) (fun K hK => ?_); go_big_quiet_op; refine hK _ ?_; clear hK K)
  clear e5
  have hc2 := HR1.out.cell (i := 2) (by omega)
  have hf2 := HR1.out.frozen 2
  refine yy165 (by rfl) (fun K hK => ?_)
  go_simp
  refine hK _ _ (yy105 (show g + 1 ≠ g by omega) _ 2 (.bool true)) ?_
  clear hK K hc2 hf2
  replace HR1 := xh (HR1.out.set 2 (.bool true))
  replace HR2 := xh (HR2.out.setOther (a := ⟨g, 2, none⟩) (by show g + 1 ≠ g; omega) (.bool true))
  replace HR3 := xh (HR3.out.setOther (a := ⟨g, 2, none⟩) (by show g + 2 ≠ g; omega) (.bool true))
  replace HB1 := xh (HB1.out.setCell (p := ⟨g, 2, none⟩) (Nat.le_refl g) (.bool true))
  generalize World.setCell _ _ _ = wd at HR1 HR2 HR3 HB1 ⊢
  repeat (refine yy44 (by rfl) (fun K hK => ?_); go_big_quiet_op; refine hK _ ?_; clear hK K)
  have hc1 := HR1.out.cell (i := 1) (by omega)
  have hf1 := HR1.out.frozen 1
  refine yy165 (by rfl) (fun K hK => ?_)
  go_simp
  refine hK _ _ (yy105 (show g + 1 ≠ g by omega) _ 1 (.slice aA ao.length aC)) ?_
  clear hK K hc1 hf1
  replace HR1 := xh (HR1.out.set 1 (.slice aA ao.length aC))
  replace HR2 := xh (HR2.out.setOther (a := ⟨g, 1, none⟩) (by show g + 1 ≠ g; omega) (.slice aA ao.length aC))
  replace HR3 := xh (HR3.out.setOther (a := ⟨g, 1, none⟩) (by show g + 2 ≠ g; omega) (.slice aA ao.length aC))
  replace HB1 := xh (HB1.out.setCell (p := ⟨g, 1, none⟩) (Nat.le_refl g) (.slice aA ao.length aC))
  generalize World.setCell _ _ _ = wd at HR1 HR2 HR3 HB1 ⊢
  refine yy142 ?_
  have hrow : World.rowIs wd g 48 8 (eightV (.int .i64 xi) (.slice aA ao.length aC) (.bool true) (.bool x3) (.bool x4) (.bool x5) (.int .i64 xp) (.string (bstr xn))) := HR1.out.congr fun i hi => by rcases (show i = 0 ∨ i = 1 ∨ i = 2 ∨ i = 3 ∨ i = 4 ∨ i = 5 ∨ i = 6 ∨ i = 7 by omega) with rfl | rfl | rfl | rfl | rfl | rfl | rfl | rfl <;> rfl
  obtain ⟨z0, z1, z2, z3, z4, z5, z6, z7⟩ := yy10 hrow
  obtain ⟨⟨a0, f0⟩, ⟨a1, f1⟩, ⟨a2, f2⟩, ⟨a3, f3⟩, ⟨a4, f4⟩, ⟨a5, f5⟩, ⟨a6, f6⟩, ⟨a7, f7⟩, hres⟩ := yy51 HR3.out (.int .i64 xi) (.slice aA ao.length aC) (.bool true) (.bool x3) (.bool x4) (.bool x5) (.int .i64 xp) (.string (bstr xn))
  have HRES := xh (yy68 hres)
  clear hrow hres
  go_wp2
  refine bodyPost_ret (results_cell_row rfl _ _ (g + 2) 48 #[.int .i64 xi, .slice aA ao.length aC, .bool true, .bool x3, .bool x4, .bool x5, .int .i64 xp, .string (bstr xn)] (0, 0) _ rfl HRES.out Tryd.underlying48 rfl (by kernel_rfl)) rfl ?_
  refine ⟨rfl, ?_⟩
  rw [← HG.out]
  exact ((((((((HB1.out).setCell (p := ⟨g + 2, 0, none⟩) (by show g ≤ g + 2; omega) _).setCell (p := ⟨g + 2, 1, none⟩) (by show g ≤ g + 2; omega) _).setCell (p := ⟨g + 2, 2, none⟩) (by show g ≤ g + 2; omega) _).setCell (p := ⟨g + 2, 3, none⟩) (by show g ≤ g + 2; omega) _).setCell (p := ⟨g + 2, 4, none⟩) (by show g ≤ g + 2; omega) _).setCell (p := ⟨g + 2, 5, none⟩) (by show g ≤ g + 2; omega) _).setCell (p := ⟨g + 2, 6, none⟩) (by show g ≤ g + 2; omega) _).setCell (p := ⟨g + 2, 7, none⟩) (by show g ≤ g + 2; omega) _
 have b4 : (ak == 4) = false := beq_eq_false_iff_ne.2 k4
 rw [withV, if_neg k1, if_neg k2, if_neg k3, if_neg k4]
 clear k1 k2 k3 k4
 unfold yy8 yy0
 simp only
 have hyk := yy11 ((yy62 (w.alloc (.cells #[.int .i64 xi, .slice xA xo.length xC, .bool x2, .bool x3, .bool x4, .bool x5, .int .i64 xp, .string (bstr xn)] 48)) 46 (.int .i64 ak) (.int .i64 ai) (.int .i64 ap) (.string (bstr an)) (.bool ad) (.slice aA ao.length aC)).alloc (Obj.cells #[.int .i64 0, .slice none 0 0, .bool false, .bool false, .bool false, .bool false, .int .i64 0, .string { data := #[] }] 48))
 rw [World.size_alloc] at hyk
 have yk := hyk.1
 clear hyk
 have HR1 := xh (((yy32 w 48 (.int .i64 xi) (.slice xA xo.length xC) (.bool x2) (.bool x3) (.bool x4) (.bool x5) (.int .i64 xp) (.string (bstr xn))).alloc (Obj.cells #[.int .i64 ak, .int .i64 ai, .int .i64 ap, .string (bstr an), .bool ad, .slice aA ao.length aC] 46)).alloc (Obj.cells #[.int .i64 0, .slice none 0 0, .bool false, .bool false, .bool false, .bool false, .int .i64 0, .string { data := #[] }] 48))
 have HR2 := xh ((yy62 (w.alloc (.cells #[.int .i64 xi, .slice xA xo.length xC, .bool x2, .bool x3, .bool x4, .bool x5, .int .i64 xp, .string (bstr xn)] 48)) 46 (.int .i64 ak) (.int .i64 ai) (.int .i64 ap) (.string (bstr an)) (.bool ad) (.slice aA ao.length aC)).alloc (Obj.cells #[.int .i64 0, .slice none 0 0, .bool false, .bool false, .bool false, .bool false, .int .i64 0, .string { data := #[] }] 48))
 have HR3 := xh (yy32 ((w.alloc (.cells #[.int .i64 xi, .slice xA xo.length xC, .bool x2, .bool x3, .bool x4, .bool x5, .int .i64 xp, .string (bstr xn)] 48)).alloc (.cells #[.int .i64 ak, .int .i64 ai, .int .i64 ap, .string (bstr an), .bool ad, .slice aA ao.length aC] 46)) 48 (.int .i64 0) (.slice none 0 0) (.bool false) (.bool false) (.bool false) (.bool false) (.int .i64 0) (.string { data := #[] }))
 rw [World.size_alloc, ← hg] at HR2
 rw [World.size_alloc, World.size_alloc, ← hg] at HR3
 rw [← hg] at HR1
 have HB1 : Hid (Below g w (((w.alloc (.cells #[.int .i64 xi, .slice xA xo.length xC, .bool x2, .bool x3, .bool x4, .bool x5, .int .i64 xp, .string (bstr xn)] 48)).alloc (.cells #[.int .i64 ak, .int .i64 ai, .int .i64 ap, .string (bstr an), .bool ad, .slice aA ao.length aC] 46)).alloc (.cells #[.int .i64 0, .slice none 0 0, .bool false, .bool false, .bool false, .bool false, .int .i64 0, .string { data := #[] }] 48))) := xh (by rw [hg]; exact (((Below.refl _ _).alloc (Nat.le_refl _) _).alloc (by simp) _).alloc (by simp; omega) _)
 have HG := xh hg
 clear hg
 obtain ⟨y0, y1, y2, y3, y4, y5⟩ := yy11 HR2.out
 obtain ⟨W0, HW0⟩ : ∃ x, Hid ((((w.alloc (.cells #[.int .i64 xi, .slice xA xo.length xC, .bool x2, .bool x3, .bool x4, .bool x5, .int .i64 xp, .string (bstr xn)] 48)).alloc (.cells #[.int .i64 ak, .int .i64 ai, .int .i64 ap, .string (bstr an), .bool ad, .slice aA ao.length aC] 46)).alloc (.cells #[.int .i64 0, .slice none 0 0, .bool false, .bool false, .bool false, .bool false, .int .i64 0, .string { data := #[] }] 48)) = x) := ⟨_, xh rfl⟩
 rw [HW0.out] at HR1 HR2 HR3 HB1 y0 y1 y2 y3 y4 y5
 clear y0 y1 y2 y3 y4 y5
 go_enter Tryd.func40, Tryd.ntmps40
 go_upto_region 10 with fail
 clear yk
 rw [← HG.out, HW0.out]
 clear HW0
 generalize W0 = wd at HR1 HR2 HR3 HB1 ⊢
 have hrow : World.rowIs wd g 48 8 (eightV (.int .i64 xi) (.slice xA xo.length xC) (.bool x2) (.bool x3) (.bool x4) (.bool x5) (.int .i64 xp) (.string (bstr xn))) := HR1.out.congr fun i hi => by rcases (show i = 0 ∨ i = 1 ∨ i = 2 ∨ i = 3 ∨ i = 4 ∨ i = 5 ∨ i = 6 ∨ i = 7 by omega) with rfl | rfl | rfl | rfl | rfl | rfl | rfl | rfl <;> rfl
 obtain ⟨z0, z1, z2, z3, z4, z5, z6, z7⟩ := yy10 hrow
 obtain ⟨⟨a0, f0⟩, ⟨a1, f1⟩, ⟨a2, f2⟩, ⟨a3, f3⟩, ⟨a4, f4⟩, ⟨a5, f5⟩, ⟨a6, f6⟩, ⟨a7, f7⟩, hres⟩ := yy51 HR3.out (.int .i64 xi) (.slice xA xo.length xC) (.bool x2) (.bool x3) (.bool x4) (.bool x5) (.int .i64 xp) (.string (bstr xn))
 have HRES := xh (yy68 hres)
 clear hrow hres
 go_wp2
 refine bodyPost_ret (results_cell_row rfl _ _ (g + 2) 48 #[.int .i64 xi, .slice xA xo.length xC, .bool x2, .bool x3, .bool x4, .bool x5, .int .i64 xp, .string (bstr xn)] (0, 0) _ rfl HRES.out Tryd.underlying48 rfl (by kernel_rfl)) rfl ?_
 refine ⟨rfl, ?_⟩
 rw [← HG.out]
 exact ((((((((HB1.out).setCell (p := ⟨g + 2, 0, none⟩) (by show g ≤ g + 2; omega) _).setCell (p := ⟨g + 2, 1, none⟩) (by show g ≤ g + 2; omega) _).setCell (p := ⟨g + 2, 2, none⟩) (by show g ≤ g + 2; omega) _).setCell (p := ⟨g + 2, 3, none⟩) (by show g ≤ g + 2; omega) _).setCell (p := ⟨g + 2, 4, none⟩) (by show g ≤ g + 2; omega) _).setCell (p := ⟨g + 2, 5, none⟩) (by show g ≤ g + 2; omega) _).setCell (p := ⟨g + 2, 6, none⟩) (by show g ≤ g + 2; omega) _).setCell (p := ⟨g + 2, 7, none⟩) (by show g ≤ g + 2; omega) _
end Go.Proofs.YtjpjdkdbgjipnaaDoor
