/- The contract of the statements' own awake: it answers true; what was there stays as it was. No condition. -/
import Derived.Test.YtigmgnoiinljpaaKCt
/- The contract of the statements' own awake: it answers true; what was there stays as it was. No condition. -/
namespace Go.Proofs.Ytigmgnoiinljpaa
open Go.RowKit Go.Deep Ieee
attribute [-go_sem] binOp_float_cmp_eql binOp_float_cmp_neq binOp_float_cmp_lss binOp_float_cmp_leq binOp_float_cmp_gtr binOp_float_cmp_geq run_eql_complex run_neq_complex

theorem aw11_V : V [97, 98] [97, 98] := by
  have h1 := V_one 97 (by omega)
  have h2 := V_one 98 (by omega)
  refine ⟨fun v hv => ?_, ?_⟩
  · rcases List.mem_cons.1 hv with rfl | hv
    · exact h1.may _ (by simp)
    · exact h2.may _ hv
  · rw [E_cons, h2.bytes]
    have := h1.bytes
    rw [E_cons, E_nil, List.append_nil] at this
    rw [this]; rfl
def aw11 : List CompV := [⟨2, 0, [97, 98]⟩, ⟨1, 3, []⟩]
theorem aw11_loose : loose [97, 98] = 2 := aw11_V.loose
theorem aw11_base : rBase aw11 = 3 := by simp [aw11, rBase, baseStep, hld_small]
theorem aw11_check : rCheck aw11 = 0 := by
  have h1 : Nrm aw11 := nrm_cons (.inr ⟨rfl, rfl, by simp, _, aw11_V⟩) (nrm_cons (.inl ⟨.inl rfl, by show (1 : Int) ≤ 3; omega, rfl⟩) nrm_nil (fun d h => by simp at h)) (fun d h => by simp at h; subst h; simp)
  have h3 : rOut aw11 = 5 := by simp [aw11, rOut, outStep, hld_small, aw11_loose]
  rw [rCheck, nrmB_yes h1, aw11_base, h3]
  simp [aw11]
theorem aw11_held : Held1 aw11 := by
  refine ⟨fun y hy => ?_, by simp [aw11], by simp [aw11, tlen]⟩
  rcases List.mem_cons.1 hy with rfl | hy
  · exact good_of _ _ _ (by omega) (by omega) ⟨aw11_V.lt, by simp⟩
  · rw [List.mem_singleton.1 hy]
    exact good_of _ _ _ (by omega) (by omega) ⟨by simp, by simp⟩
theorem aw11_thr : rThrough 2 false aw11 = 4 := by
  rw [rThrough_thr, aw11, thr_two rfl, thr_one rfl, thr_nil, if_pos (.inl (by omega)), aw11_loose]
  rfl
theorem nosel_half : NoSel 4602678819172646912 4607182418800017408 := ⟨_, _, .inl ⟨_, FV.cHalf, by omega, rfl⟩, .inl ⟨_, FV.c1, by omega, rfl⟩, rfl⟩
set_option maxHeartbeats 4000000 in
set_option maxRecDepth 100000 in
theorem curAwake_any (w : World) : Calls Try.prog 8 #[] w fun e w' => e = .returned (.bool true) ∧ Below w.heap.size w w' := by
  have hs := sel_mk (x := 2) (y := 2) (by omega) (by omega) (by omega) (by omega)
  have G1 := Lib.hid (fun w => of_yes (x := 2) (y := 2) (by omega) (by omega) (by omega) (by omega) w)
  have G2 := Lib.hid (fun w => of_no (x := -1) (y := 0) (by unfold Fit64; omega) (by unfold Fit64; omega) (by omega) w)
  have G3 := Lib.hid (fun A c w h => through_yes hs false A c aw11 aw11_check aw11_base (by omega) aw11_held w h)
  rw [aw11_thr] at G3
  have GN := Lib.hid (fun w => places_no nosel_half w)
  have GP := Lib.hid (fun a b (h : Sel a b 4 4) w => places_yes h w)
  have R1 := ceq_fv hs.re hs.im FV.c2 FV.c2 (r := true) (by simp)
  generalize floatOfInt .f64 2 = n2 at G1 G3 R1
  have HR : Hid (CompsC _ (some ⟨w.heap.size, 0, none⟩) 2 aw11) := ⟨row_two w w.heap.size rfl 2 0 [97, 98] 1 3 [], Nat.le_refl _⟩
  have HW : Hid (Below w.heap.size w (w.alloc (.cells #[.int .i64 2, .int .i64 0, .string (bstr [97, 98]), .int .i64 1, .int .i64 3, .string (bstr [])] 49))) := (Below.refl _ w).alloc (Nat.le_refl _) _
  clear hs
  go_enter Try.func8, Try.ntmps8
  go_wp2_with fail
  refine (G1.out _).mono ?_
  rintro e w1 ⟨rfl, rfl⟩
  go_wp2_with fail
  refine (G2.out _).mono ?_
  rintro e w1 ⟨rfl, rfl⟩
  go_wp2_with fail
  refine (G3.out _ _ _ HR.out).mono ?_
  rintro e w1 ⟨⟨p, q, rfl, hp⟩, hb⟩
  have HP := Lib.hid hp
  have HW1 := Lib.hid (HW.out.trans (hb.mono HW.out.size))
  clear hp hb
  go_wp2_with fail
  refine (GP.out _ _ HP.out _).mono ?_
  rintro e w2 ⟨rfl, rfl⟩
  go_wp2_with fail
  refine (GN.out _).mono ?_
  rintro e w3 ⟨rfl, rfl⟩
  go_wp2
  go_ret
  exact ⟨rfl, HW1.out⟩
end Go.Proofs.Ytigmgnoiinljpaa
