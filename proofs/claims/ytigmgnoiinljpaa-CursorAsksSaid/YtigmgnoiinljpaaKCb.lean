/- The landed walk along an edit with both places in one number. Conditions: the edit is checked, the places within 0 and 2000, no text of more than 2^30 bytes. -/
import Derived.Test.YtigmgnoiinljpaaKCf
import Derived.Test.YtigmgnoiinljpaaKAl
import Derived.Test.YtigmgnoiinljpaaKRef
/- The landed walk along an edit with both places in one number. Conditions: the edit is checked, the places within 0 and 2000, no text of more than 2^30 bytes. -/
namespace Go.Proofs.Ytigmgnoiinljpaa
open Go.RowKit Go.Deep Ieee
attribute [-go_sem] binOp_float_cmp_eql binOp_float_cmp_neq binOp_float_cmp_lss binOp_float_cmp_leq binOp_float_cmp_gtr binOp_float_cmp_geq run_eql_complex run_neq_complex

theorem ahead_any {a b : Nat} {p n : Int} (ha : FV a (16 * p)) (hb : FV b (16 * n)) : ∃ r, FV r (16 * min (max p 0) n) ∧ ∀ w, Calls Try.prog 40 #[.float .f64 a, .float .f64 b] w fun e w' => e = .returned (.float .f64 r) ∧ w' = w := by
  obtain ⟨m, e1, f1⟩ := fmax_fv ha FV.c0
  obtain ⟨r, e2, f2⟩ := fmin_fv f1 hb
  refine ⟨r, by rw [show 16 * min (max p 0) n = min (max (16 * p) 0) (16 * n) by omega]; exact f2, fun w => ?_⟩
  clear f1 f2 ha hb
  go_enter Try.func40, Try.ntmps40
  go_wp2
  go_ret
  exact ⟨rfl, rfl⟩
theorem goesOn_any {a : Nat} {p : Int} (ha : FV a (16 * p)) (after : Bool) (w : World) : Calls Try.prog 41 #[.float .f64 a, .bool after] w fun e w' => e = .returned (.bool (decide (0 < p ∨ (p = 0 ∧ after = true)))) ∧ w' = w := by
  rcases Int.lt_trichotomy p 0 with h | h | h
  · have e1 := fGtr (ha.order FV.c0) (v := false) (by rw [cmp_lt (by omega)]; rfl)
    have e2 := fEql (ha.order FV.c0) (v := false) (by rw [cmp_lt (by omega)]; rfl)
    rw [decide_eq_false (by omega)]
    clear ha h
    cases after
    · go_enter Try.func41, Try.ntmps41
      go_wp2
      go_ret
      exact ⟨rfl, rfl⟩
    · go_enter Try.func41, Try.ntmps41
      go_wp2
      go_ret
      exact ⟨rfl, rfl⟩
  · have e1 := fGtr (ha.order FV.c0) (v := false) (by rw [cmp_eq (by omega)]; rfl)
    have e2 := fEql (ha.order FV.c0) (v := true) (by rw [cmp_eq (by omega)]; rfl)
    subst h
    clear ha
    cases after
    · rw [decide_eq_false (by simp)]
      go_enter Try.func41, Try.ntmps41
      go_wp2
      go_ret
      exact ⟨rfl, rfl⟩
    · rw [decide_eq_true (by simp)]
      go_enter Try.func41, Try.ntmps41
      go_wp2
      go_ret
      exact ⟨rfl, rfl⟩
  · have e1 := fGtr (ha.order FV.c0) (v := true) (by rw [cmp_gt (by omega)]; rfl)
    rw [decide_eq_true (.inl h)]
    clear ha h
    go_enter Try.func41, Try.ntmps41
    go_wp2
    go_ret
    exact ⟨rfl, rfl⟩
theorem elem_comps' : Try.prog.elem 36 = 49 := by kernel_rfl
theorem size_comp' (w : World) : (sizeOf 49).run Try.prog w = .ok 3 w := Try.sizeOf49 w
/-- One part, cut out. -/
theorem comps_one {w : World} {b off : Nat} {l : List CompV} {c k : Nat} (h : CompsAt w (some ⟨b, off, none⟩) l) (hc : l.length ≤ c) (hk : k < l.length) :
    ∃ A', (∀ w, (Instr.slice 36 (.slice (some ⟨b, off, none⟩) l.length c) (some (.int .i64 (k : Int))) (some (.int .i64 ((k : Int) + 1))) none).run Try.prog w = .ok (.slice A' 1 (c - k)) w) ∧ CompsAt w A' [l[k]] := by
  obtain ⟨h0, h1, h2⟩ := h.at_ hk
  obtain ⟨b', off', e, hb⟩ := h.form (by omega)
  injection e with e
  injection e with e1 e2
  subst e1 e2
  refine ⟨some ⟨b, off + k * 3, none⟩, fun w => ?_, .inr ⟨b, off + k * 3, rfl, hb, fun j v hj => ?_⟩⟩
  · rw [run_slice_lh (P := Try.prog) (w := w) 36 (some ⟨b, off, none⟩) l.length c (by rw [elem_comps']; exact Try.underlying36) .i64 .i64 (k : Int) ((k : Int) + 1) (by omega) (by omega) (by omega), elem_comps', size_comp']
    simp [Result.andThen, sliced, Go.WideShapes.add_plain]
    omega
  · match j with
    | 0 => simp [compCells] at hj; rw [← hj]; exact h0
    | 1 => simp [compCells] at hj; rw [← hj]; exact h1
    | 2 => simp [compCells] at hj; rw [← hj]; exact h2
    | j + 3 => simp [compCells] at hj
/-- What is so of a walk along an edit, at a part. -/
structure BehAt (x y : Int) (after : Bool) (l : List CompV) (k a b p q : Nat) (s t1 t2 : Int) : Prop where
  rx : thrRun x after (l.take k) = (s, t1)
  ry : thrRun y after (l.take k) = (s, t2)
  fa : FV a (16 * (x - s))
  fb : FV b (16 * (y - s))
  fp : FV p (16 * t1)
  fq : FV q (16 * t2)
  b1 : 0 ≤ t1 ∧ t1 ≤ (k : Int) * 2147483648
  b2 : 0 ≤ t2 ∧ t2 ≤ (k : Int) * 2147483648
  bs : 0 ≤ s ∧ s ≤ 2000
set_option maxHeartbeats 4000000 in
set_option maxRecDepth 100000 in
theorem behind_any {x y : Int} (hx0 : 0 ≤ x) (hx1 : x ≤ 2000) (hy0 : 0 ≤ y) (hy1 : y ≤ 2000) {a b : Nat} (ha : FV a (16 * x)) (hb : FV b (16 * y)) (after : Bool) (A : Option Addr) (c : Nat) (l : List CompV) (hz : rCheck l = 0) (hh : Held1 l) (w : World) (hc : CompsC w A c l) :
    Calls Try.prog 26 #[.complex .f64 a b, .slice A l.length c, .bool after] w fun e w' => (∃ p q, e = .returned (.complex .f64 p q) ∧ FV p (16 * rThrough x after l) ∧ FV q (16 * rThrough y after l)) ∧ Below w.heap.size w w' := by
  have HC := Lib.hid hc; clear hc
  have HH := Lib.hid hh; clear hh
  have HFA := Lib.hid (check_zero hz).2.1.fair
  have hl := (check_zero hz).1
  have HSUM : Hid (sumT l ≤ 2000) := by show _ ≤ _; rw [sum_base HFA.out (check_zero hz).2.2.1]; exact (check_zero hz).2.2.1
  have H0 := Lib.hid (show BehAt x y after l 0 a b 0 0 0 0 0 from ⟨rfl, rfl, by rw [Int.sub_zero]; exact ha, by rw [Int.sub_zero]; exact hb, FV.c0, FV.c0, by omega, by omega, by omega⟩)
  clear hz ha hb
  go_enter Try.func26, Try.ntmps26
  go_wp2
  go_loopw [0, 7, 14] (fun cc o i wr => ∃ (k a b p q : Nat) (s t1 t2 : Int), k ≤ l.length ∧ i = .int .i64 k ∧ cc = .complex .f64 a b ∧ o = .complex .f64 p q ∧ BehAt x y after l k a b p q s t1 t2 ∧ Below w.heap.size w wr) (fun _ _ i _ => l.length - (intOf i).toNat)
  case atStart => exact ⟨0, a, b, 0, 0, 0, 0, 0, Nat.zero_le _, rfl, rfl, rfl, H0.out, Below.refl _ _⟩
  case round =>
    obtain ⟨k, a1, b1, p, q, s, t1, t2, hk, rfl, rfl, rfl, hrel, hbw⟩ := hrel
    have HR := Lib.hid hrel; clear hrel
    have HBW := Lib.hid hbw; clear hbw
    by_cases hlt : k < l.length
    · obtain ⟨b0, off, rfl, _⟩ := HC.out.1.form (by omega)
      obtain ⟨x0, x1, x2⟩ := (HC.out.1.below HBW.out).at_ hlt
      obtain ⟨A1, hsl, hc1⟩ := comps_one (HC.out.1.below HBW.out) HC.out.2 hlt
      have HC1 := Lib.hid hc1
      have HBA := Lib.hid (fun o => HBW.out.alloc HBW.out.size o)
      have HSx := Lib.hid (show thrRun x after (l.take (k + 1)) = thrStep x after (s, t1) l[k] by rw [List.take_succ_eq_append_getElem hlt, thrRun_snoc, HR.out.rx])
      have HSy := Lib.hid (show thrRun y after (l.take (k + 1)) = thrStep y after (s, t2) l[k] by rw [List.take_succ_eq_append_getElem hlt, thrRun_snoc, HR.out.ry])
      have hs0 := (sum_take HFA.out k).1
      have hs1 := (sum_take HFA.out (k + 1)).2
      have hsn : sumT (l.take (k + 1)) = sumStep (sumT (l.take k)) l[k] := by rw [List.take_succ_eq_append_getElem hlt, sum_snoc]
      have hat : s = sumT (l.take k) := by rw [← thrRun_at x after, HR.out.rx]
      rw [hsn] at hs1
      rw [← hat] at hs0 hs1
      have hsum := HSUM.out
      have hfy := HFA.out _ (List.getElem_mem hlt)
      have HG := Lib.hid (HH.out.good _ (List.getElem_mem hlt))
      have hyt : l[k].text.length ≤ 1073741824 := by have := tlen_get hlt; have := HH.out.text; omega
      have hb1 := HR.out.b1
      have hb2 := HR.out.b2
      clear hsn hat hc1
      generalize l[k] = y0 at x0 x1 x2 HSx HSy hs1 hfy HG hyt HC1
      obtain ⟨kd, n, tx⟩ := y0
      simp only at x0 x1 x2 hyt
      by_cases h1 : kd = 1
      · subst h1
        have hn : 1 ≤ n := by rcases hfy with ⟨_, h⟩ | h; exact h; (simp only at h; omega)
        clear hfy HC1 HG
        have hs2 : s + n ≤ 2000 := by have : s + n ≤ sumT l := hs1; omega
        obtain ⟨m, m', E1, F1, F2⟩ := step_fv (n := n) (by omega)
        obtain ⟨a2, b2, E2, F3, F4⟩ := csub_fv HR.out.fa HR.out.fb F1 F2 (by omega) (by omega)
        have R1 := rMul E1
        have R2 := rSub E2
        obtain ⟨u1, U1, gx⟩ := ahead_any HR.out.fa (FV.ofInt (n := n) (by omega))
        obtain ⟨u2, U2, gy⟩ := ahead_any HR.out.fb (FV.ofInt (n := n) (by omega))
        have GAx := Lib.hid gx
        have GAy := Lib.hid gy
        obtain ⟨p1, q1, E3, F5, F6⟩ := cadd_fv HR.out.fp HR.out.fq U1 U2 (by omega) (by omega)
        have R3 := rAdd E3
        have HB : Hid (BehAt x y after l (k + 1) a2 b2 p1 q1 (s + n) (t1 + min (max (x - s) 0) n) (t2 + min (max (y - s) 0) n)) := by
          obtain ⟨r1, r2, r3, r4, r5, r6, r7, r8, r9⟩ := HR.out
          refine ⟨?_, ?_, ?_, ?_, ?_, ?_, by omega, by omega, by omega⟩
          · rw [HSx.out]; rfl
          · rw [HSy.out]; rfl
          · rw [show 16 * (x - (s + n)) = 16 * (x - s) - 16 * n by omega]; exact F3
          · rw [show 16 * (y - (s + n)) = 16 * (y - s) - 16 * n by omega]; exact F4
          · rw [show 16 * (t1 + min (max (x - s) 0) n) = 16 * t1 + 16 * min (max (x - s) 0) n by omega]; exact F5
          · rw [show 16 * (t2 + min (max (y - s) 0) n) = 16 * t2 + 16 * min (max (y - s) 0) n by omega]; exact F6
        clear E1 F1 F2 E2 F3 F4 U1 gx U2 gy E3 F5 F6 hs0 hs1 hs2 HSx HSy hyt
        go_wp2_with fail
        refine (GAx.out _).mono ?_
        rintro e w2 ⟨rfl, rfl⟩
        go_wp2_with fail
        refine (GAy.out _).mono ?_
        rintro e w2 ⟨rfl, rfl⟩
        go_wp2
        go_roundw
        case rel => exact ⟨k + 1, _, _, _, _, _, _, _, by omega, by go_num, rfl, rfl, HB.out, (HBA.out _)⟩
        case measure => simp [intOf]; omega
      · have g1 : (kd == 1) = false := beq_eq_false_iff_ne.2 h1
        by_cases h2 : kd = 2
        · subst h2
          have hyx : Fine1 [CompV.mk 2 n tx] := fun y hy => by rw [List.mem_singleton.1 hy]; exact ⟨HG.out, by show tx.length ≤ _; omega⟩
          have GO := Lib.hid (fun w h => opOut_any A1 (c - k) [CompV.mk 2 n tx] (by simp [maxLen]) hyx w h)
          have hzl := loose_le tx
          have HRO := Lib.hid (show rOut [CompV.mk 2 n tx] = (loose tx : Int) by
            rw [show [CompV.mk 2 n tx] = [] ++ [CompV.mk 2 n tx] from rfl, rOut_snoc, rOut_nil]
            rw [outStep, if_neg (by simp), if_pos rfl, hld_small (by omega) (by omega) (by simp only; omega), Int.zero_add])
          rw [HRO.out] at GO
          obtain ⟨z, HZ⟩ : ∃ z, Hid (loose tx = z) := ⟨_, Lib.hid rfl⟩
          rw [HZ.out] at GO hzl
          simp only [List.length_singleton] at GO
          have FZ := FV.ofInt (n := (z : Int)) (by omega)
          clear hfy h1 HRO HG
          by_cases cx : 0 < x - s ∨ (x - s = 0 ∧ after = true)
          · have cx' : (s < x ∨ (s = x ∧ after = true)) := by rcases cx with h | ⟨h, g⟩; exact .inl (by omega); exact .inr ⟨by omega, g⟩
            have GX := Lib.hid (goesOn_any HR.out.fa after)
            rw [decide_eq_true cx] at GX
            by_cases cy : 0 < y - s ∨ (y - s = 0 ∧ after = true)
            · have cy' : (s < y ∨ (s = y ∧ after = true)) := by rcases cy with h | ⟨h, g⟩; exact .inl (by omega); exact .inr ⟨by omega, g⟩
              have GY := Lib.hid (goesOn_any HR.out.fb after)
              rw [decide_eq_true cy] at GY
              obtain ⟨p1, q1, E1, F1, F2⟩ := cadd_fv HR.out.fp HR.out.fq FZ FV.c0 (by omega) (by omega)
              have R1 := rAdd E1
              obtain ⟨m1, m2, E2, F5, F6⟩ := cmul_fv (p := 0) (q := 0) (r := 16 * (z : Int)) (s := 0) FZ FV.c0 FV.c0 FV.c1 (by omega) (by omega) (by omega) (by omega) (by omega) (by omega) (by omega) (by omega) (by omega) (by omega)
              rw [show (0 : Int) - 0 = 0 by omega] at F5
              rw [Int.add_zero] at F6
              obtain ⟨p2, q2, E3, F3, F4⟩ := cadd_fv F1 F2 F5 F6 (by omega) (by omega)
              have R2 := rMul E2
              have R3 := rAdd E3
              have HB : Hid (BehAt x y after l (k + 1) a1 b1 p2 q2 s (t1 + (z : Int)) (t2 + (z : Int))) := by
                obtain ⟨r1, r2, r3, r4, r5, r6, r7, r8, r9⟩ := HR.out
                refine ⟨?_, ?_, r3, r4, ?_, ?_, by omega, by omega, r9⟩
                · rw [HSx.out, thrStep, if_neg (by simp), if_pos rfl, if_pos (cx')]; simp only [HZ.out]
                · rw [HSy.out, thrStep, if_neg (by simp), if_pos rfl, if_pos (cy')]; simp only [HZ.out]
                · rw [show 16 * (t1 + (z : Int)) = 16 * t1 + 16 * (z : Int) + 0 by omega]; exact F3
                · rw [show 16 * (t2 + (z : Int)) = 16 * t2 + 0 + 16 * (z : Int) by omega]; exact F4
              clear cx cy cx' cy' E1 F1 F2 E2 E3 F3 F4 F5 F6 FZ hs0 hs1 HSx HSy hzl hyt hyx
              go_wp2_with fail
              refine (GO.out _ (HC1.out.below ((Below.refl _ _).alloc (Nat.le_refl _) _))).mono ?_
              rintro e w2 ⟨rfl, hb2⟩
              have HB2 : Hid (Below w.heap.size w w2) := (HBA.out _).trans (hb2.mono (HBA.out _).size)
              clear hb2
              go_wp2_with fail
              refine (GX.out _).mono ?_
              rintro e w3 ⟨rfl, rfl⟩
              go_wp2_with fail
              refine (GY.out _).mono ?_
              rintro e w3 ⟨rfl, rfl⟩
              go_wp2
              go_roundw
              case rel => exact ⟨k + 1, _, _, _, _, _, _, _, by omega, by go_num, rfl, rfl, HB.out, HB2.out⟩
              case measure => simp [intOf]; omega
            · have cy' : ¬ (s < y ∨ (s = y ∧ after = true)) := by intro h; apply cy; rcases h with h | ⟨h, g⟩; exact .inl (by omega); exact .inr ⟨by omega, g⟩
              have GY := Lib.hid (goesOn_any HR.out.fb after)
              rw [decide_eq_false cy] at GY
              obtain ⟨p1, q1, E1, F1, F2⟩ := cadd_fv HR.out.fp HR.out.fq FZ FV.c0 (by omega) (by omega)
              have R1 := rAdd E1
              have HB : Hid (BehAt x y after l (k + 1) a1 b1 p1 q1 s (t1 + (z : Int)) (t2)) := by
                obtain ⟨r1, r2, r3, r4, r5, r6, r7, r8, r9⟩ := HR.out
                refine ⟨?_, ?_, r3, r4, ?_, ?_, by omega, by omega, r9⟩
                · rw [HSx.out, thrStep, if_neg (by simp), if_pos rfl, if_pos (cx')]; simp only [HZ.out]
                · rw [HSy.out, thrStep, if_neg (by simp), if_pos rfl, if_neg (cy')]
                · rw [show 16 * (t1 + (z : Int)) = 16 * t1 + 16 * (z : Int) by omega]; exact F1
                · rw [show 16 * t2 = 16 * t2 + 0 by omega]; exact F2
              clear cx cy cx' cy' E1 F1 F2 FZ hs0 hs1 HSx HSy hzl hyt hyx
              go_wp2_with fail
              refine (GO.out _ (HC1.out.below ((Below.refl _ _).alloc (Nat.le_refl _) _))).mono ?_
              rintro e w2 ⟨rfl, hb2⟩
              have HB2 : Hid (Below w.heap.size w w2) := (HBA.out _).trans (hb2.mono (HBA.out _).size)
              clear hb2
              go_wp2_with fail
              refine (GX.out _).mono ?_
              rintro e w3 ⟨rfl, rfl⟩
              go_wp2_with fail
              refine (GY.out _).mono ?_
              rintro e w3 ⟨rfl, rfl⟩
              go_wp2
              go_roundw
              case rel => exact ⟨k + 1, _, _, _, _, _, _, _, by omega, by go_num, rfl, rfl, HB.out, HB2.out⟩
              case measure => simp [intOf]; omega
          · have cx' : ¬ (s < x ∨ (s = x ∧ after = true)) := by intro h; apply cx; rcases h with h | ⟨h, g⟩; exact .inl (by omega); exact .inr ⟨by omega, g⟩
            have GX := Lib.hid (goesOn_any HR.out.fa after)
            rw [decide_eq_false cx] at GX
            by_cases cy : 0 < y - s ∨ (y - s = 0 ∧ after = true)
            · have cy' : (s < y ∨ (s = y ∧ after = true)) := by rcases cy with h | ⟨h, g⟩; exact .inl (by omega); exact .inr ⟨by omega, g⟩
              have GY := Lib.hid (goesOn_any HR.out.fb after)
              rw [decide_eq_true cy] at GY
              obtain ⟨m1, m2, E2, F5, F6⟩ := cmul_fv (p := 0) (q := 0) (r := 16 * (z : Int)) (s := 0) FZ FV.c0 FV.c0 FV.c1 (by omega) (by omega) (by omega) (by omega) (by omega) (by omega) (by omega) (by omega) (by omega) (by omega)
              rw [show (0 : Int) - 0 = 0 by omega] at F5
              rw [Int.add_zero] at F6
              obtain ⟨p2, q2, E3, F3, F4⟩ := cadd_fv HR.out.fp HR.out.fq F5 F6 (by omega) (by omega)
              have R2 := rMul E2
              have R3 := rAdd E3
              have HB : Hid (BehAt x y after l (k + 1) a1 b1 p2 q2 s (t1) (t2 + (z : Int))) := by
                obtain ⟨r1, r2, r3, r4, r5, r6, r7, r8, r9⟩ := HR.out
                refine ⟨?_, ?_, r3, r4, ?_, ?_, by omega, by omega, r9⟩
                · rw [HSx.out, thrStep, if_neg (by simp), if_pos rfl, if_neg (cx')]
                · rw [HSy.out, thrStep, if_neg (by simp), if_pos rfl, if_pos (cy')]; simp only [HZ.out]
                · rw [show 16 * t1 = 16 * t1 + 0 by omega]; exact F3
                · rw [show 16 * (t2 + (z : Int)) = 16 * t2 + 16 * (z : Int) by omega]; exact F4
              clear cx cy cx' cy' E2 E3 F3 F4 F5 F6 FZ hs0 hs1 HSx HSy hzl hyt hyx
              go_wp2_with fail
              refine (GO.out _ (HC1.out.below ((Below.refl _ _).alloc (Nat.le_refl _) _))).mono ?_
              rintro e w2 ⟨rfl, hb2⟩
              have HB2 : Hid (Below w.heap.size w w2) := (HBA.out _).trans (hb2.mono (HBA.out _).size)
              clear hb2
              go_wp2_with fail
              refine (GX.out _).mono ?_
              rintro e w3 ⟨rfl, rfl⟩
              go_wp2_with fail
              refine (GY.out _).mono ?_
              rintro e w3 ⟨rfl, rfl⟩
              go_wp2
              go_roundw
              case rel => exact ⟨k + 1, _, _, _, _, _, _, _, by omega, by go_num, rfl, rfl, HB.out, HB2.out⟩
              case measure => simp [intOf]; omega
            · have cy' : ¬ (s < y ∨ (s = y ∧ after = true)) := by intro h; apply cy; rcases h with h | ⟨h, g⟩; exact .inl (by omega); exact .inr ⟨by omega, g⟩
              have GY := Lib.hid (goesOn_any HR.out.fb after)
              rw [decide_eq_false cy] at GY
              have HB : Hid (BehAt x y after l (k + 1) a1 b1 p q s (t1) (t2)) := by
                obtain ⟨r1, r2, r3, r4, r5, r6, r7, r8, r9⟩ := HR.out
                refine ⟨?_, ?_, r3, r4, ?_, ?_, by omega, by omega, r9⟩
                · rw [HSx.out, thrStep, if_neg (by simp), if_pos rfl, if_neg (cx')]
                · rw [HSy.out, thrStep, if_neg (by simp), if_pos rfl, if_neg (cy')]
                · exact r5
                · exact r6
              clear cx cy cx' cy' FZ hs0 hs1 HSx HSy hzl hyt hyx
              go_wp2_with fail
              refine (GO.out _ (HC1.out.below ((Below.refl _ _).alloc (Nat.le_refl _) _))).mono ?_
              rintro e w2 ⟨rfl, hb2⟩
              have HB2 : Hid (Below w.heap.size w w2) := (HBA.out _).trans (hb2.mono (HBA.out _).size)
              clear hb2
              go_wp2_with fail
              refine (GX.out _).mono ?_
              rintro e w3 ⟨rfl, rfl⟩
              go_wp2_with fail
              refine (GY.out _).mono ?_
              rintro e w3 ⟨rfl, rfl⟩
              go_wp2
              go_roundw
              case rel => exact ⟨k + 1, _, _, _, _, _, _, _, by omega, by go_num, rfl, rfl, HB.out, HB2.out⟩
              case measure => simp [intOf]; omega
        · have g2 : (kd == 2) = false := beq_eq_false_iff_ne.2 h2
          have h3 : kd = 3 ∧ 1 ≤ n := by
            rcases hfy with ⟨h, h'⟩ | h
            · simp only at h h'; omega
            · exact absurd h h2
          obtain ⟨rfl, hn⟩ := h3
          clear hfy h1 h2 HC1 HG
          have hs2 : s + n ≤ 2000 := by have : s + n ≤ sumT l := hs1; omega
          obtain ⟨m, m', E1, F1, F2⟩ := step_fv (n := n) (by omega)
          obtain ⟨a2, b2, E2, F3, F4⟩ := csub_fv HR.out.fa HR.out.fb F1 F2 (by omega) (by omega)
          have R1 := rMul E1
          have R2 := rSub E2
          have HB : Hid (BehAt x y after l (k + 1) a2 b2 p q (s + n) t1 t2) := by
            obtain ⟨r1, r2, r3, r4, r5, r6, r7, r8, r9⟩ := HR.out
            refine ⟨?_, ?_, ?_, ?_, r5, r6, by omega, by omega, by omega⟩
            · rw [HSx.out]; rfl
            · rw [HSy.out]; rfl
            · rw [show 16 * (x - (s + n)) = 16 * (x - s) - 16 * n by omega]; exact F3
            · rw [show 16 * (y - (s + n)) = 16 * (y - s) - 16 * n by omega]; exact F4
          clear E1 F1 F2 E2 F3 F4 hs0 hs1 hs2 HSx HSy hyt
          go_wp2
          go_roundw
          case rel => exact ⟨k + 1, _, _, _, _, _, _, _, by omega, by go_num, rfl, rfl, HB.out, (HBA.out _)⟩
          case measure => simp [intOf]; omega
    · have HE : Hid (FV p (16 * rThrough x after l) ∧ FV q (16 * rThrough y after l)) := by
        obtain ⟨r1, r2, r3, r4, r5, r6, r7, r8, r9⟩ := HR.out
        rw [List.take_of_length_le (by omega)] at r1 r2
        show _ ∧ _
        rw [rThrough, rThrough, r1, r2]
        exact ⟨r5, r6⟩
      go_wp2
      go_ret
      exact ⟨⟨_, _, rfl, HE.out⟩, HBW.out⟩
end Go.Proofs.Ytigmgnoiinljpaa
