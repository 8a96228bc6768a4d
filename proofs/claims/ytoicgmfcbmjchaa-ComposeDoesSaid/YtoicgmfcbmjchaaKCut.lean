/- What compose's walk cuts off both parts: the landed cut. Condition: parts of no more than 2^40 code points, no text of more than 2^40 bytes. -/
import Derived.Test.YtoicgmfcbmjchaaKSm
import Derived.Test.YtoicgmfcbmjchaaKUw
import Derived.Test.YtoicgmfcbmjchaaKBase
import Derived.BigRegion
import Derived.RegionTactic
/- What compose's walk cuts off both parts: the landed cut. Condition: parts of no more than 2^40 code points, no text of more than 2^40 bytes. -/
namespace Go.Proofs.Ytoicgmfcbmjchaa
open Go.RowKit Go.Deep

/-- What is left of a part's text. -/
noncomputable def leftT (c : CompV) (n : Nat) : List Nat := if c.kind = 2 then E ((cps c.text).drop n) else c.text
/-- While a piece is cut off: what is answered lies at r, its making at r + 1, both parts at g and h. -/
structure Cs (p q r g h : Nat) (w0 : World) (kd : Int) (k : Int) (s : List Nat) (z : Int) (t : List Nat) (dk : Int) (m : Int) (dt : List Nat) (w : World) : Prop where
  rr : w.rowIs r 49 3 (cmCells 0 0 [])
  rh : w.rowIs (r + 1) 49 3 (cmCells kd k s)
  rg : w.rowIs g 49 3 (cmCells kd z t)
  ry : w.rowIs h 49 3 (cmCells dk m dt)
  mid : Mid p q w0 w
  r0 : r = w0.heap.size
  g0 : g < r
  h0 : h < r
  ne : g ≠ h
  pg : p ≤ g
  gq : g < q
  ph : p ≤ h
  hq : h < q
namespace Cs
variable {p q r g h : Nat} {w0 w w' : World} {kd k z dk m : Int} {s t dt : List Nat}
theorem below (c : Cs p q r g h w0 kd k s z t dk m dt w) (hb : Below w.heap.size w w') : Cs p q r g h w0 kd k s z t dk m dt w' :=
  ⟨c.rr.of_block (hb.block _ c.rr.lt), c.rh.of_block (hb.block _ c.rh.lt), c.rg.of_block (hb.block _ c.rg.lt), c.ry.of_block (hb.block _ c.ry.lt), c.mid.trans (.of_below hb), c.r0, c.g0, c.h0, c.ne, c.pg, c.gq, c.ph, c.hq⟩
theorem drew (c : Cs p q r g h w0 kd k s z t dk m dt w) : Cs p q r g h w0 kd k s z t dk m dt w.drew := c.below (Below.refl _ _).drew
theorem setK (c : Cs p q r g h w0 kd k s z t dk m dt w) (x : Int) : Cs p q r g h w0 kd x s z t dk m dt (w.setCell ⟨r + 1, 1, none⟩ (.int .i64 x)) :=
  ⟨c.rr.setOther (by show r ≠ r + 1; omega) _, (c.rh.set 1 _).congr fun i hi => (by rcases (show i = 0 ∨ i = 1 ∨ i = 2 by omega) with rfl | rfl | rfl <;> rfl), c.rg.setOther (by have := c.g0; show g ≠ r + 1; omega) _, c.ry.setOther (by have := c.h0; show h ≠ r + 1; omega) _,
    c.mid.setNew _ _ _ (by have := c.r0; omega), c.r0, c.g0, c.h0, c.ne, c.pg, c.gq, c.ph, c.hq⟩
theorem setS (c : Cs p q r g h w0 kd k s z t dk m dt w) (x : List Nat) : Cs p q r g h w0 kd k x z t dk m dt (w.setCell ⟨r + 1, 2, none⟩ (.string (bstr x))) :=
  ⟨c.rr.setOther (by show r ≠ r + 1; omega) _, (c.rh.set 2 _).congr fun i hi => (by rcases (show i = 0 ∨ i = 1 ∨ i = 2 by omega) with rfl | rfl | rfl <;> rfl), c.rg.setOther (by have := c.g0; show g ≠ r + 1; omega) _, c.ry.setOther (by have := c.h0; show h ≠ r + 1; omega) _,
    c.mid.setNew _ _ _ (by have := c.r0; omega), c.r0, c.g0, c.h0, c.ne, c.pg, c.gq, c.ph, c.hq⟩
theorem setZ (c : Cs p q r g h w0 kd k s z t dk m dt w) (x : Int) : Cs p q r g h w0 kd k s x t dk m dt (w.setCell ⟨g, 1, none⟩ (.int .i64 x)) :=
  ⟨c.rr.setOther (by have := c.g0; show r ≠ g; omega) _, c.rh.setOther (by have := c.g0; show r + 1 ≠ g; omega) _, (c.rg.set 1 _).congr fun i hi => (by rcases (show i = 0 ∨ i = 1 ∨ i = 2 by omega) with rfl | rfl | rfl <;> rfl), c.ry.setOther (by have := c.ne; show h ≠ g; omega) _,
    c.mid.set _ _ _ c.pg c.gq, c.r0, c.g0, c.h0, c.ne, c.pg, c.gq, c.ph, c.hq⟩
theorem setT (c : Cs p q r g h w0 kd k s z t dk m dt w) (x : List Nat) : Cs p q r g h w0 kd k s z x dk m dt (w.setCell ⟨g, 2, none⟩ (.string (bstr x))) :=
  ⟨c.rr.setOther (by have := c.g0; show r ≠ g; omega) _, c.rh.setOther (by have := c.g0; show r + 1 ≠ g; omega) _, (c.rg.set 2 _).congr fun i hi => (by rcases (show i = 0 ∨ i = 1 ∨ i = 2 by omega) with rfl | rfl | rfl <;> rfl), c.ry.setOther (by have := c.ne; show h ≠ g; omega) _,
    c.mid.set _ _ _ c.pg c.gq, c.r0, c.g0, c.h0, c.ne, c.pg, c.gq, c.ph, c.hq⟩
theorem setM (c : Cs p q r g h w0 kd k s z t dk m dt w) (x : Int) : Cs p q r g h w0 kd k s z t dk x dt (w.setCell ⟨h, 1, none⟩ (.int .i64 x)) :=
  ⟨c.rr.setOther (by have := c.h0; show r ≠ h; omega) _, c.rh.setOther (by have := c.h0; show r + 1 ≠ h; omega) _, c.rg.setOther c.ne _, (c.ry.set 1 _).congr fun i hi => (by rcases (show i = 0 ∨ i = 1 ∨ i = 2 by omega) with rfl | rfl | rfl <;> rfl),
    c.mid.set _ _ _ c.ph c.hq, c.r0, c.g0, c.h0, c.ne, c.pg, c.gq, c.ph, c.hq⟩
/-- What is answered is what was made. -/
theorem fin (c : Cs p q r g h w0 kd k s z t dk m dt w) : ∃ w', w' = ((w.setCell ⟨r, 0, none⟩ (.int .i64 kd)).setCell ⟨r, 1, none⟩ (.int .i64 k)).setCell ⟨r, 2, none⟩ (.string (bstr s)) ∧ w.cell? ⟨r, 0, none⟩ = some (.int .i64 0) ∧ w.frozen? ⟨r, 0, none⟩ = false ∧
    (w.setCell ⟨r, 0, none⟩ (.int .i64 kd)).cell? ⟨r, 1, none⟩ = some (.int .i64 0) ∧ (w.setCell ⟨r, 0, none⟩ (.int .i64 kd)).frozen? ⟨r, 1, none⟩ = false ∧
    ((w.setCell ⟨r, 0, none⟩ (.int .i64 kd)).setCell ⟨r, 1, none⟩ (.int .i64 k)).cell? ⟨r, 2, none⟩ = some (.string (bstr [])) ∧ ((w.setCell ⟨r, 0, none⟩ (.int .i64 kd)).setCell ⟨r, 1, none⟩ (.int .i64 k)).frozen? ⟨r, 2, none⟩ = false ∧
    w'.heap[r]? = some (.cells #[.int .i64 kd, .int .i64 k, .string (bstr s)] 49 (0, 0)) ∧ w'.rowIs g 49 3 (cmCells kd z t) ∧ w'.rowIs h 49 3 (cmCells dk m dt) ∧ Mid p q w0 w' := by
  obtain ⟨a0, a1, a2, a3, a4, a5, hrow⟩ := three c.rr (.int .i64 kd) (.int .i64 k) (.string (bstr s))
  have hg : g ≠ r := by have := c.g0; omega
  have hh : h ≠ r := by have := c.h0; omega
  refine ⟨_, rfl, a0, a1, a2, a3, a4, a5, rowIs_cells #[.int .i64 kd, .int .i64 k, .string (bstr s)] hrow (fun i hi => ?_), ((c.rg.setOther hg _).setOther hg _).setOther hg _, ((c.ry.setOther hh _).setOther hh _).setOther hh _, ((c.mid.setNew _ _ _ (by have := c.r0; omega)).setNew _ _ _ (by have := c.r0; omega)).setNew _ _ _ (by have := c.r0; omega)⟩
  have hi' : i < 3 := hi
  have : i = 0 ∨ i = 1 ∨ i = 2 := by omega
  rcases this with rfl | rfl | rfl <;> rfl
theorem start (w : World) (hx : w.rowIs g 49 3 (cmCells kd z t)) (hy : w.rowIs h 49 3 (cmCells dk m dt)) (hgh : g ≠ h) (hpg : p ≤ g) (hgq : g < q) (hph : p ≤ h) (hhq : h < q) :
    Cs p q w.heap.size g h w kd z t z t dk m dt ((w.alloc (Obj.cells #[.int .i64 0, .int .i64 0, .string { data := #[] }] 49)).alloc (Obj.cells #[.int .i64 kd, .int .i64 z, .string (bstr t)] 49)) := by
  have hb : Below w.heap.size w ((w.alloc (Obj.cells #[.int .i64 0, .int .i64 0, .string { data := #[] }] 49)).alloc (Obj.cells #[.int .i64 kd, .int .i64 z, .string (bstr t)] 49)) := ((Below.refl _ _).alloc (Nat.le_refl _) _).alloc (by simp) _
  have h2 := cm_new (w.alloc (Obj.cells #[.int .i64 0, .int .i64 0, .string { data := #[] }] 49)) kd z t
  rw [show (w.alloc (Obj.cells #[.int .i64 0, .int .i64 0, .string { data := #[] }] 49)).heap.size = w.heap.size + 1 by simp] at h2
  exact ⟨(cm_new w 0 0 []).alloc _, h2, hx.of_block (hb.block _ hx.lt), hy.of_block (hb.block _ hy.lt), .of_below hb, rfl, hx.lt, hy.lt, hgh, hpg, hgq, hph, hhq⟩
end Cs

set_option maxHeartbeats 2000000 in
set_option maxRecDepth 100000 in
theorem comCut_any (p q g h : Nat) (c : CompV) (hc : Wh c) (m z : Nat) (hm : m ≤ 1099511627776) (hz : sz c = z) (hzm : z ≤ 1099511627776) (ht : c.text.length ≤ 1099511627776) (dk : Int) (dt : List Nat) (w : World)
    (hx : w.rowIs g 49 3 (cmCells c.kind (z : Int) c.text)) (hy : w.rowIs h 49 3 (cmCells dk (m : Int) dt)) (hgh : g ≠ h) (hpg : p ≤ g) (hgq : g < q) (hph : p ≤ h) (hhq : h < q) :
    Calls Try.prog 51 #[.pointer (some ⟨g, 0, none⟩), .pointer (some ⟨h, 0, none⟩)] w fun e w' =>
      e = .returned (.agg #[.int .i64 c.kind, .int .i64 ((min z m : Nat) : Int), .string (bstr (piece c (min z m)).text)]) ∧ w'.rowIs g 49 3 (cmCells c.kind ((z - min z m : Nat) : Int) (leftT c (min z m))) ∧
      w'.rowIs h 49 3 (cmCells dk ((m - min z m : Nat) : Int) dt) ∧ Mid p q w w' := by
  obtain ⟨k, HK⟩ : ∃ k, Hid (min z m = k) := ⟨_, rfl⟩
  rw [HK.out]
  by_cases h2 : c.kind = 2
  · have hv : V c.text (cps c.text) := by
      rcases hc.cases with h | h | h
      · omega
      · omega
      · exact cps_V h.2.2.2
    have HZL : Hid (z = (cps c.text).length) := by show z = _; rw [← hz, sz_two h2]
    have GOF : Hid (∀ n : Nat, n ≤ z → ∀ w : World, Calls Try.prog 64 #[.string (bstr c.text), .int .i64 (n : Int)] w fun e w' => e = .returned (.tuple #[.int .i64 (((E ((cps c.text).take n)).length : Nat) : Int), .int .i64 0]) ∧ Below w.heap.size w w') :=
      fun n hn w => utfOffset_yes hv ht n (by rw [← HZL.out]; exact hn) w
    have HP : Hid (piece c k = ⟨2, 0, E ((cps c.text).take k)⟩) := if_pos h2
    have HL : Hid (leftT c k = E ((cps c.text).drop k)) := if_pos h2
    rw [HP.out, HL.out]
    obtain ⟨hd, HHD⟩ : ∃ x, Hid (E ((cps c.text).take k) = x) := ⟨_, rfl⟩
    obtain ⟨tl, HTL⟩ : ∃ x, Hid (E ((cps c.text).drop k) = x) := ⟨_, rfl⟩
    have HTE : Hid (c.text = hd ++ tl) := by show _ = _; rw [← HHD.out, ← HTL.out, ← E_append, List.take_append_drop]; exact hv.bytes.symm
    have SL1 := slice_bstr_to c.text hd.length (by rw [HTE.out, List.length_append]; omega)
    have SL2 := slice_bstr_from c.text hd.length (by rw [HTE.out, List.length_append]; omega)
    have hs1 : c.text.take hd.length = hd := by rw [HTE.out, List.take_left]
    have hs2 : c.text.drop hd.length = tl := by rw [HTE.out, List.drop_left]
    rw [hs1] at SL1
    rw [hs2] at SL2
    clear hs1 hs2 HP HL hv hc hz ht HTE HZL
    rw [HHD.out, HTL.out]
    obtain ⟨kd, n, t⟩ := c
    simp only at h2 hx GOF SL1 SL2 HHD HTL ⊢
    subst h2
    clear n
    have HS := Cs.start w hx hy hgh hpg hgq hph hhq
    have x0 := cm_row (hx.of_block (((Below.refl w.heap.size w).alloc (Nat.le_refl _) (Obj.cells #[.int .i64 0, .int .i64 0, .string { data := #[] }] 49)).block g hx.lt))
    obtain ⟨x0, x1, x2⟩ := x0
    clear hx hy hgh hpg hgq hph hhq
    obtain ⟨wB, HWB⟩ : ∃ x, Hid (((w.alloc (Obj.cells #[.int .i64 0, .int .i64 0, .string { data := #[] }] 49)).alloc (Obj.cells #[.int .i64 2, .int .i64 (z : Int), .string (bstr t)] 49)) = x) := ⟨_, rfl⟩
    rw [HWB.out] at HS
    have HS1 := Lib.hid HS; clear HS
    obtain ⟨r, HR⟩ : ∃ x, Hid (w.heap.size = x) := ⟨_, rfl⟩
    rw [HR.out] at HS1
    go_enter Try.func51, Try.ntmps51
    go_wp2_with fail
    rw [HWB.out, HR.out]
    clear x0 x1 x2
    by_cases hc1 : z ≤ m
    · have HKZ : Hid (k = z) := by show k = z; rw [← HK.out]; omega
      have c1 : (z : Int) ≤ (m : Int) := by omega
      have HAT : Hid ((E (List.take z (cps t))).length = hd.length) := by show _ = _; rw [← HHD.out, HKZ.out]
      have y1 := (cm_row HS1.out.rg).2.1
      have y2 := (cm_row HS1.out.ry).2.1
      have y3 := (cm_row HS1.out.rh).2.1
      have yf := HS1.out.rh.frozen 1
      have HS2 := Lib.hid ((HS1.out.setK (z : Int)).drew)
      go_region
      clear y1 y2 y3 yf
      generalize World.drew _ = wC at HS2 ⊢
      have y0 := (cm_row HS2.out.rg).1
      go_wp2_with fail
      have u0 := (cm_row HS2.out.rg).2.2
      have u1 := (cm_row HS2.out.rh).2.1
      have HGL : Hid (g < wC.heap.size) := HS2.out.rg.lt
      have HHL : Hid (r + 1 < wC.heap.size) := HS2.out.rh.lt
      have e0 : ∀ e : ExtK (keepBlocks [g, r + 1]) wC.drew, e.val.cell? ⟨g, 2, none⟩ = some (.string (bstr t)) := fun e => (cell_of_block (e.property.2 g (by simp)) 2).trans u0
      have e1 : ∀ e : ExtK (keepBlocks [g, r + 1]) wC.drew, e.val.cell? ⟨r + 1, 1, none⟩ = some (.int .i64 (z : Int)) := fun e => (cell_of_block (e.property.2 (r + 1) (by simp)) 1).trans u1
      refine wp_region_held_lit (keepBlocks [g, r + 1]) [(0, true), (1, true), (2, true), (3, true), (4, true), (5, true), (6, false), (7, true), (8, true), (9, true), (10, true), (11, true)] (by kernel_rfl) (by kernel_rfl) (fun _ _ d _ _ h => by cases d <;> exact h) ?_
      simp only [picked, List.map_cons, List.map_nil, List.getElem?_cons_succ, List.getElem?_cons_zero, Option.getD_some]
      repeat (refine wpH_quiet (by rfl) (fun K hK => ?_); go_big_quiet_op; refine hK _ ?_; clear hK K)
      clear e0 e1 u0 u1
      refine wpH_one (by rfl) (fun K hK => ?_)
      go_simp
      have GO := Lib.hid (GOF.out z (by omega) wC.drew)
      rw [HAT.out] at GO
      refine (GO.out).mono ?_
      rintro e wX ⟨rfl, hbX⟩
      refine hK _ _ ⟨hbX.size, fun b hb => hbX.block b (by
        rcases List.mem_cons.1 hb with e | e
        · rw [e]; exact HGL.out
        · rw [List.mem_singleton.1 e]; exact HHL.out)⟩ ?_
      clear hK K GO HGL HHL
      have HSX := Lib.hid (HS2.out.drew.below hbX)
      clear hbX HS2
      repeat (refine wpH_quiet (by rfl) (fun K hK => ?_); go_big_quiet_op; refine hK _ ?_; clear hK K)
      refine wpH_nil ?_
      have u0 := (cm_row HSX.out.rg).2.2
      have uf := HSX.out.rh.frozen 2
      have u2 := (cm_row HSX.out.rh).2.2
      have HSY : Hid (Cs p q r g h w 2 (z : Int) hd (z : Int) t dk (m : Int) dt _) := HSX.out.setS hd
      have v0 := (cm_row HSY.out.rg).2.2
      have vf := HSY.out.rg.frozen 2
      have HSZ := Lib.hid ((HSY.out.setT tl).drew)
      go_wp2_with fail
      go_region
      clear u0 uf u2 v0 vf HSX HSY
      generalize World.drew _ = wG at HSZ ⊢
      have HS2 := HSZ
      clear HSZ
      go_wp2_with fail
      have y1 := (cm_row HS2.out.rg).2.1
      have y3 := (cm_row HS2.out.rh).2.1
      have yf := HS2.out.rg.frozen 1
      have e1 : IntKind.i64.wrap ((z : Int) - (z : Int)) = (0 : Int) := by rw [IntKind.wrap_i64]; omega
      have e2 : IntKind.i64.wrap ((m : Int) - (z : Int)) = ((m - z : Nat) : Int) := by rw [IntKind.wrap_i64]; omega
      have HS3 := Lib.hid ((HS2.out.setZ ((0 : Int))).drew)
      go_region
      clear y1 y3 yf
      generalize World.drew _ = wD at HS3 ⊢
      have y2 := (cm_row HS3.out.ry).2.1
      have y3 := (cm_row HS3.out.rh).2.1
      have yf := HS3.out.ry.frozen 1
      have HS4 := Lib.hid ((HS3.out.setM (((m - z : Nat) : Int))).drew)
      go_wp2_with fail
      go_region
      clear y2 y3 yf
      generalize World.drew _ = wE at HS4 ⊢
      have y0 := (cm_row HS4.out.rh).1
      have y1 := (cm_row HS4.out.rh).2.1
      have y2 := (cm_row HS4.out.rh).2.2
      obtain ⟨wF, rfl, a0, a1, a2, a3, a4, a5, hrow, hg, hh, hmid⟩ := HS4.out.fin
      have HROW := Lib.hid hrow
      have HGG := Lib.hid hg
      have HHH := Lib.hid hh
      have HMM := Lib.hid hmid
      clear hrow hg hh hmid
      go_wp2_with fail
      refine bodyPost_ret (results_cell_row rfl _ _ r 49 #[.int .i64 2, .int .i64 (z : Int), .string (bstr hd)] (0, 0) _ rfl HROW.out Try.underlying49 rfl (by kernel_rfl)) rfl ?_
      have q1 : ((z - z : Nat) : Int) = (0 : Int) := by omega
      have q2 : ((m - z : Nat) : Int) = ((m - z : Nat) : Int) := by omega
      rw [HKZ.out, q1, q2]
      exact ⟨rfl, HGG.out, HHH.out, HMM.out⟩
    · have HKZ : Hid (k = m) := by show k = m; rw [← HK.out]; omega
      have c1 : (m : Int) < (z : Int) := by omega
      have HAT : Hid ((E (List.take m (cps t))).length = hd.length) := by show _ = _; rw [← HHD.out, HKZ.out]
      have y1 := (cm_row HS1.out.rg).2.1
      have y2 := (cm_row HS1.out.ry).2.1
      have y3 := (cm_row HS1.out.rh).2.1
      have yf := HS1.out.rh.frozen 1
      have HS2 := Lib.hid ((HS1.out.setK (m : Int)).drew)
      go_region
      clear y1 y2 y3 yf
      generalize World.drew _ = wC at HS2 ⊢
      have y0 := (cm_row HS2.out.rg).1
      go_wp2_with fail
      have u0 := (cm_row HS2.out.rg).2.2
      have u1 := (cm_row HS2.out.rh).2.1
      have HGL : Hid (g < wC.heap.size) := HS2.out.rg.lt
      have HHL : Hid (r + 1 < wC.heap.size) := HS2.out.rh.lt
      have e0 : ∀ e : ExtK (keepBlocks [g, r + 1]) wC.drew, e.val.cell? ⟨g, 2, none⟩ = some (.string (bstr t)) := fun e => (cell_of_block (e.property.2 g (by simp)) 2).trans u0
      have e1 : ∀ e : ExtK (keepBlocks [g, r + 1]) wC.drew, e.val.cell? ⟨r + 1, 1, none⟩ = some (.int .i64 (m : Int)) := fun e => (cell_of_block (e.property.2 (r + 1) (by simp)) 1).trans u1
      refine wp_region_held_lit (keepBlocks [g, r + 1]) [(0, true), (1, true), (2, true), (3, true), (4, true), (5, true), (6, false), (7, true), (8, true), (9, true), (10, true), (11, true)] (by kernel_rfl) (by kernel_rfl) (fun _ _ d _ _ h => by cases d <;> exact h) ?_
      simp only [picked, List.map_cons, List.map_nil, List.getElem?_cons_succ, List.getElem?_cons_zero, Option.getD_some]
      repeat (refine wpH_quiet (by rfl) (fun K hK => ?_); go_big_quiet_op; refine hK _ ?_; clear hK K)
      clear e0 e1 u0 u1
      refine wpH_one (by rfl) (fun K hK => ?_)
      go_simp
      have GO := Lib.hid (GOF.out m (by omega) wC.drew)
      rw [HAT.out] at GO
      refine (GO.out).mono ?_
      rintro e wX ⟨rfl, hbX⟩
      refine hK _ _ ⟨hbX.size, fun b hb => hbX.block b (by
        rcases List.mem_cons.1 hb with e | e
        · rw [e]; exact HGL.out
        · rw [List.mem_singleton.1 e]; exact HHL.out)⟩ ?_
      clear hK K GO HGL HHL
      have HSX := Lib.hid (HS2.out.drew.below hbX)
      clear hbX HS2
      repeat (refine wpH_quiet (by rfl) (fun K hK => ?_); go_big_quiet_op; refine hK _ ?_; clear hK K)
      refine wpH_nil ?_
      have u0 := (cm_row HSX.out.rg).2.2
      have uf := HSX.out.rh.frozen 2
      have u2 := (cm_row HSX.out.rh).2.2
      have HSY : Hid (Cs p q r g h w 2 (m : Int) hd (z : Int) t dk (m : Int) dt _) := HSX.out.setS hd
      have v0 := (cm_row HSY.out.rg).2.2
      have vf := HSY.out.rg.frozen 2
      have HSZ := Lib.hid ((HSY.out.setT tl).drew)
      go_wp2_with fail
      go_region
      clear u0 uf u2 v0 vf HSX HSY
      generalize World.drew _ = wG at HSZ ⊢
      have HS2 := HSZ
      clear HSZ
      go_wp2_with fail
      have y1 := (cm_row HS2.out.rg).2.1
      have y3 := (cm_row HS2.out.rh).2.1
      have yf := HS2.out.rg.frozen 1
      have e1 : IntKind.i64.wrap ((z : Int) - (m : Int)) = ((z - m : Nat) : Int) := by rw [IntKind.wrap_i64]; omega
      have e2 : IntKind.i64.wrap ((m : Int) - (m : Int)) = (0 : Int) := by rw [IntKind.wrap_i64]; omega
      have HS3 := Lib.hid ((HS2.out.setZ (((z - m : Nat) : Int))).drew)
      go_region
      clear y1 y3 yf
      generalize World.drew _ = wD at HS3 ⊢
      have y2 := (cm_row HS3.out.ry).2.1
      have y3 := (cm_row HS3.out.rh).2.1
      have yf := HS3.out.ry.frozen 1
      have HS4 := Lib.hid ((HS3.out.setM ((0 : Int))).drew)
      go_wp2_with fail
      go_region
      clear y2 y3 yf
      generalize World.drew _ = wE at HS4 ⊢
      have y0 := (cm_row HS4.out.rh).1
      have y1 := (cm_row HS4.out.rh).2.1
      have y2 := (cm_row HS4.out.rh).2.2
      obtain ⟨wF, rfl, a0, a1, a2, a3, a4, a5, hrow, hg, hh, hmid⟩ := HS4.out.fin
      have HROW := Lib.hid hrow
      have HGG := Lib.hid hg
      have HHH := Lib.hid hh
      have HMM := Lib.hid hmid
      clear hrow hg hh hmid
      go_wp2_with fail
      refine bodyPost_ret (results_cell_row rfl _ _ r 49 #[.int .i64 2, .int .i64 (m : Int), .string (bstr hd)] (0, 0) _ rfl HROW.out Try.underlying49 rfl (by kernel_rfl)) rfl ?_
      have q1 : ((z - m : Nat) : Int) = ((z - m : Nat) : Int) := by omega
      have q2 : ((m - m : Nat) : Int) = (0 : Int) := by omega
      rw [HKZ.out, q1, q2]
      exact ⟨rfl, HGG.out, HHH.out, HMM.out⟩
  · have HT : Hid (c.text = []) := by
      show _ = _
      rcases hc.cases with h | h | h
      · exact h.2.2
      · exact h.2.2
      · exact absurd h.1 h2
    have HP : Hid (piece c k = ⟨c.kind, k, []⟩) := if_neg h2
    have HL : Hid (leftT c k = []) := by show _ = _; rw [leftT, if_neg h2, HT.out]
    rw [HP.out, HL.out]
    rw [HT.out] at hx
    clear hc hz ht HP HL
    obtain ⟨kd, n, t⟩ := c
    simp only at h2 hx ⊢
    have g2 : (kd == 2) = false := beq_eq_false_iff_ne.2 h2
    clear HT h2 n t
    have HS := Cs.start w hx hy hgh hpg hgq hph hhq
    have x0 := cm_row (hx.of_block (((Below.refl w.heap.size w).alloc (Nat.le_refl _) (Obj.cells #[.int .i64 0, .int .i64 0, .string { data := #[] }] 49)).block g hx.lt))
    obtain ⟨x0, x1, x2⟩ := x0
    clear hx hy hgh hpg hgq hph hhq
    obtain ⟨wB, HWB⟩ : ∃ x, Hid (((w.alloc (Obj.cells #[.int .i64 0, .int .i64 0, .string { data := #[] }] 49)).alloc (Obj.cells #[.int .i64 kd, .int .i64 (z : Int), .string (bstr [])] 49)) = x) := ⟨_, rfl⟩
    rw [HWB.out] at HS
    have HS1 := Lib.hid HS; clear HS
    obtain ⟨r, HR⟩ : ∃ x, Hid (w.heap.size = x) := ⟨_, rfl⟩
    rw [HR.out] at HS1
    go_enter Try.func51, Try.ntmps51
    go_wp2_with fail
    rw [HWB.out, HR.out]
    clear x0 x1 x2
    by_cases hc1 : z ≤ m
    · have HKZ : Hid (k = z) := by show k = z; rw [← HK.out]; omega
      have c1 : (z : Int) ≤ (m : Int) := by omega
      have y1 := (cm_row HS1.out.rg).2.1
      have y2 := (cm_row HS1.out.ry).2.1
      have y3 := (cm_row HS1.out.rh).2.1
      have yf := HS1.out.rh.frozen 1
      have HS2 := Lib.hid ((HS1.out.setK (z : Int)).drew)
      go_region
      clear y1 y2 y3 yf
      generalize World.drew _ = wC at HS2 ⊢
      have y0 := (cm_row HS2.out.rg).1
      go_wp2_with fail
      clear y0
      have y1 := (cm_row HS2.out.rg).2.1
      have y3 := (cm_row HS2.out.rh).2.1
      have yf := HS2.out.rg.frozen 1
      have e1 : IntKind.i64.wrap ((z : Int) - (z : Int)) = (0 : Int) := by rw [IntKind.wrap_i64]; omega
      have e2 : IntKind.i64.wrap ((m : Int) - (z : Int)) = ((m - z : Nat) : Int) := by rw [IntKind.wrap_i64]; omega
      have HS3 := Lib.hid ((HS2.out.setZ ((0 : Int))).drew)
      go_region
      clear y1 y3 yf
      generalize World.drew _ = wD at HS3 ⊢
      have y2 := (cm_row HS3.out.ry).2.1
      have y3 := (cm_row HS3.out.rh).2.1
      have yf := HS3.out.ry.frozen 1
      have HS4 := Lib.hid ((HS3.out.setM (((m - z : Nat) : Int))).drew)
      go_wp2_with fail
      go_region
      clear y2 y3 yf
      generalize World.drew _ = wE at HS4 ⊢
      have y0 := (cm_row HS4.out.rh).1
      have y1 := (cm_row HS4.out.rh).2.1
      have y2 := (cm_row HS4.out.rh).2.2
      obtain ⟨wF, rfl, a0, a1, a2, a3, a4, a5, hrow, hg, hh, hmid⟩ := HS4.out.fin
      have HROW := Lib.hid hrow
      have HGG := Lib.hid hg
      have HHH := Lib.hid hh
      have HMM := Lib.hid hmid
      clear hrow hg hh hmid
      go_wp2_with fail
      refine bodyPost_ret (results_cell_row rfl _ _ r 49 #[.int .i64 kd, .int .i64 (z : Int), .string (bstr [])] (0, 0) _ rfl HROW.out Try.underlying49 rfl (by kernel_rfl)) rfl ?_
      have q1 : ((z - z : Nat) : Int) = (0 : Int) := by omega
      have q2 : ((m - z : Nat) : Int) = ((m - z : Nat) : Int) := by omega
      rw [HKZ.out, q1, q2]
      exact ⟨rfl, HGG.out, HHH.out, HMM.out⟩
    · have HKZ : Hid (k = m) := by show k = m; rw [← HK.out]; omega
      have c1 : (m : Int) < (z : Int) := by omega
      have y1 := (cm_row HS1.out.rg).2.1
      have y2 := (cm_row HS1.out.ry).2.1
      have y3 := (cm_row HS1.out.rh).2.1
      have yf := HS1.out.rh.frozen 1
      have HS2 := Lib.hid ((HS1.out.setK (m : Int)).drew)
      go_region
      clear y1 y2 y3 yf
      generalize World.drew _ = wC at HS2 ⊢
      have y0 := (cm_row HS2.out.rg).1
      go_wp2_with fail
      clear y0
      have y1 := (cm_row HS2.out.rg).2.1
      have y3 := (cm_row HS2.out.rh).2.1
      have yf := HS2.out.rg.frozen 1
      have e1 : IntKind.i64.wrap ((z : Int) - (m : Int)) = ((z - m : Nat) : Int) := by rw [IntKind.wrap_i64]; omega
      have e2 : IntKind.i64.wrap ((m : Int) - (m : Int)) = (0 : Int) := by rw [IntKind.wrap_i64]; omega
      have HS3 := Lib.hid ((HS2.out.setZ (((z - m : Nat) : Int))).drew)
      go_region
      clear y1 y3 yf
      generalize World.drew _ = wD at HS3 ⊢
      have y2 := (cm_row HS3.out.ry).2.1
      have y3 := (cm_row HS3.out.rh).2.1
      have yf := HS3.out.ry.frozen 1
      have HS4 := Lib.hid ((HS3.out.setM ((0 : Int))).drew)
      go_wp2_with fail
      go_region
      clear y2 y3 yf
      generalize World.drew _ = wE at HS4 ⊢
      have y0 := (cm_row HS4.out.rh).1
      have y1 := (cm_row HS4.out.rh).2.1
      have y2 := (cm_row HS4.out.rh).2.2
      obtain ⟨wF, rfl, a0, a1, a2, a3, a4, a5, hrow, hg, hh, hmid⟩ := HS4.out.fin
      have HROW := Lib.hid hrow
      have HGG := Lib.hid hg
      have HHH := Lib.hid hh
      have HMM := Lib.hid hmid
      clear hrow hg hh hmid
      go_wp2_with fail
      refine bodyPost_ret (results_cell_row rfl _ _ r 49 #[.int .i64 kd, .int .i64 (m : Int), .string (bstr [])] (0, 0) _ rfl HROW.out Try.underlying49 rfl (by kernel_rfl)) rfl ?_
      have q1 : ((z - m : Nat) : Int) = ((z - m : Nat) : Int) := by omega
      have q2 : ((m - m : Nat) : Int) = (0 : Int) := by omega
      rw [HKZ.out, q1, q2]
      exact ⟨rfl, HGG.out, HHH.out, HMM.out⟩
end Go.Proofs.Ytoicgmfcbmjchaa
