/- So many nodes there may be, and not one more; so many code points in all files; what goes makes room: TreeLimits answers true and changes nothing. No condition. -/
import Derived.Test.YtkckgchohnkkpaaMTTreeFull
import Derived.Test.YtkckgchohnkkpaaMTTreeAwake
/- So many nodes there may be, and not one more; so many code points in all files; what goes makes room: TreeLimits answers true and changes nothing. No condition. -/
namespace Go.Proofs.Ytkckgchohnkkpaa
open Go.RowKit Go.Deep
attribute [-go_sem] run_min_int2

theorem rMin (x y : Int) {m : Int} (h : min x y = m) (ts : Array TypeId) (t : TypeId) (w : World) : (Builtin.min_ ts t #[.int .i64 x, .int .i64 y]).run Try.prog w = .ok (.int .i64 m) w := by
  rw [run_min_int2, ← h]
  congr 2
  split <;> omega
theorem comps_lit (w : World) (k n : Int) (t : List Nat) : CompsAt (w.alloc (.cells #[.int .i64 k, .int .i64 n, .string (bstr t)] 32)) (some ⟨w.heap.size, 0, none⟩) [⟨k, n, t⟩] :=
  CellsAt.lit (fun j v hj => by
    match j, hj with
    | 0, hj => cases hj; rfl
    | 1, hj => cases hj; rfl
    | 2, hj => cases hj; rfl) rfl
set_option maxHeartbeats 3000000 in
set_option maxRecDepth 100000 in
theorem treeLimits_any (n f : Int) (hn : -9223372036854775808 ≤ n ∧ n ≤ 9223372036854775807) (hf : -9223372036854775808 ≤ f ∧ f ≤ 9223372036854775807) (w : World) :
    Calls Try.prog 3 #[.int .i64 n, .int .i64 f] w fun e w' => e = .returned (.bool true) ∧ Below w.heap.size w w' := by
  have GA := Lib.hid (fun w => awake_any w)
  have GN := Lib.hid (fun w => new_any w)
  by_cases g0 : n < 0
  · clear GN
    go_enter Try.func3, Try.ntmps3
    go_wp2_with fail
    refine (GA.out _).mono ?_
    rintro e w1 ⟨rfl, hb⟩
    go_wp2
    go_ret
    exact ⟨rfl, hb⟩
  by_cases g1 : 102 < n
  · clear GN
    go_enter Try.func3, Try.ntmps3
    go_wp2_with fail
    refine (GA.out _).mono ?_
    rintro e w1 ⟨rfl, hb⟩
    go_wp2
    go_ret
    exact ⟨rfl, hb⟩
  by_cases g2 : f < 0
  · clear GN
    go_enter Try.func3, Try.ntmps3
    go_wp2_with fail
    refine (GA.out _).mono ?_
    rintro e w1 ⟨rfl, hb⟩
    go_wp2
    go_ret
    exact ⟨rfl, hb⟩
  by_cases g3 : 8 < f
  · clear GN
    go_enter Try.func3, Try.ntmps3
    go_wp2_with fail
    refine (GA.out _).mono ?_
    rintro e w1 ⟨rfl, hb⟩
    go_wp2
    go_ret
    exact ⟨rfl, hb⟩
  obtain ⟨N, rfl⟩ : ∃ N : Nat, n = (N : Int) := ⟨n.toNat, by omega⟩
  obtain ⟨F, rfl⟩ : ∃ F : Nat, f = (F : Int) := ⟨f.toNat, by omega⟩
  have hN : N ≤ 102 ∧ F ≤ 8 := by omega
  clear hn hf g0 g1 g2 g3
  go_enter Try.func3, Try.ntmps3
  go_wp2_with fail
  refine (GN.out _).mono ?_
  rintro e w1 ⟨rfl, ht, hb⟩
  have HT : Hid (TreeAt w1 w.heap.size (stN (min 0 100) 0)) := by rw [show stN (min 0 100) 0 = [] from by unfold stN; rfl]; exact ht
  have HB := Lib.hid hb
  clear ht hb
  go_wp2
  go_loopw [6, 7] (fun i x wr => ∃ q : Nat, q ≤ N ∧ i = .int .i64 (q : Int) ∧ Hid (TreeAt wr w.heap.size (stN (min q 100) 0)) ∧ Hid (Below w.heap.size w wr)) (fun i _ _ => N - (intOf i).toNat)
  case atStart => exact ⟨0, Nat.zero_le _, rfl, HT, HB⟩
  case round =>
    clear HT HB
    obtain ⟨q, hq, rfl, HT, HB⟩ := hrel
    by_cases hlt : q < N
    · obtain ⟨b0, HB0⟩ : ∃ b, Hid (blks 1 (q : Int) = b) := ⟨_, Lib.hid rfl⟩
      obtain ⟨b1, HB1⟩ : ∃ b, Hid (blks 2 ((q : Int) / 26) = b) := ⟨_, Lib.hid rfl⟩
      obtain ⟨M, HM⟩ : ∃ M, Hid (nmN q = M) := ⟨_, Lib.hid rfl⟩
      have hb0 : b0.length = 1 := by rw [← HB0.out, blks_length]
      have hb1 : b1.length = 2 := by rw [← HB1.out, blks_length]
      have hM : 110 :: b0 ++ b1 = M := by
        rw [← HM.out, ← HB0.out, ← HB1.out]
        unfold nmN
        rw [show ((q / 26 : Nat) : Int) = (q : Int) / 26 from by omega]
        rfl
      have hadd1 : ∀ w, (Op.stringOp .add { data := #[110] } (bstr b0)).run Try.prog w = .ok (.string (bstr (110 :: b0))) w := fun w => add_bstr [110] b0 (by simp) (by omega) w
      have hadd2 : ∀ w, (Op.stringOp .add (bstr (110 :: b0)) (bstr b1)).run Try.prog w = .ok (.string (bstr M)) w := fun w => by rw [add_bstr (110 :: b0) b1 (by simp; omega) (by omega) w, hM]
      have GB1 := Lib.hid (fun w => blocks_any 1 (by omega) (q : Int) w)
      have GB2 := Lib.hid (fun w => blocks_any 2 (by omega) ((q : Int) / 26) w)
      rw [HB0.out] at GB1
      rw [HB1.out] at GB2
      clear hM hb0 hb1
      by_cases hfull : 100 ≤ q
      · skip
        have GD : Hid (∀ w' : World, TreeAt w' w.heap.size (stN 100 0) → Calls Try.prog 6 #[.pointer (some ⟨w.heap.size, 0, none⟩), .agg #[.int .i64 1, .int .i64 ((q : Int) + 1), .int .i64 0, .string (bstr M), .bool false, .slice none 0 0]] w' fun e w'' => e = .returned (.int .i64 4) ∧ TreeAt w'' w.heap.size (stN 100 0) ∧ Only w.heap.size w' w'') := by
          intro w' h
          rw [← HM.out]
          exact tDo (do_st_full (by omega) (by omega)) (stN_tree _ (by omega)) (actOk_plain (by unfold Fit64; omega) (by unfold Fit64; omega) (by unfold Fit64; omega) (nmN_lt q) (by rw [nmN_len]; omega)) w' h (comps_none w')
        replace HT := Lib.hid (show TreeAt wr w.heap.size (stN 100 0) from by rw [show min q 100 = 100 from by omega] at HT; exact HT.out)
        go_wp2_with fail
        refine (GB1.out _).mono ?_
        rintro e x1 ⟨rfl, hb⟩
        replace HT := Lib.hid (HT.out.below hb)
        replace HB := Lib.hid (HB.out.trans (hb.mono HB.out.size))
        clear hb
        go_wp2_with fail
        refine (GB2.out _).mono ?_
        rintro e x2 ⟨rfl, hb⟩
        replace HT := Lib.hid (HT.out.below hb)
        replace HB := Lib.hid (HB.out.trans (hb.mono HB.out.size))
        clear hb
        go_wp2_with fail
        refine (GD.out _ HT.out).mono ?_
        rintro e x3 ⟨rfl, ht, ho⟩
        replace HT := Lib.hid ht
        replace HB := Lib.hid (ho.below HB.out (Nat.le_refl _))
        clear ht ho
        go_wp2_with fail
        go_roundw
        case rel => exact ⟨q + 1, by omega, by go_num, by rw [show min (q + 1) 100 = 100 from by omega]; exact HT, HB⟩
        case measure => simp [intOf]; omega

      · skip
        have GD : Hid (∀ w' : World, TreeAt w' w.heap.size (stN q 0) → Calls Try.prog 6 #[.pointer (some ⟨w.heap.size, 0, none⟩), .agg #[.int .i64 1, .int .i64 ((q : Int) + 1), .int .i64 0, .string (bstr M), .bool false, .slice none 0 0]] w' fun e w'' => e = .returned (.int .i64 0) ∧ TreeAt w'' w.heap.size (stN (q + 1) 0) ∧ Only w.heap.size w' w'') := by
          intro w' h
          rw [← HM.out]
          exact tDo (do_st (by omega)) (stN_tree _ (by omega)) (actOk_plain (by unfold Fit64; omega) (by unfold Fit64; omega) (by unfold Fit64; omega) (nmN_lt q) (by rw [nmN_len]; omega)) w' h (comps_none w')
        replace HT := Lib.hid (show TreeAt wr w.heap.size (stN q 0) from by rw [show min q 100 = q from by omega] at HT; exact HT.out)
        go_wp2_with fail
        refine (GB1.out _).mono ?_
        rintro e x1 ⟨rfl, hb⟩
        replace HT := Lib.hid (HT.out.below hb)
        replace HB := Lib.hid (HB.out.trans (hb.mono HB.out.size))
        clear hb
        go_wp2_with fail
        refine (GB2.out _).mono ?_
        rintro e x2 ⟨rfl, hb⟩
        replace HT := Lib.hid (HT.out.below hb)
        replace HB := Lib.hid (HB.out.trans (hb.mono HB.out.size))
        clear hb
        go_wp2_with fail
        refine (GD.out _ HT.out).mono ?_
        rintro e x3 ⟨rfl, ht, ho⟩
        replace HT := Lib.hid ht
        replace HB := Lib.hid (ho.below HB.out (Nat.le_refl _))
        clear ht ho
        go_wp2_with fail
        go_roundw
        case rel => exact ⟨q + 1, by omega, by go_num, by rw [show min (q + 1) 100 = q + 1 from by omega]; exact HT, HB⟩
        case measure => simp [intOf]; omega

    · obtain rfl : q = N := by omega
      obtain ⟨w2, hw2⟩ : ∃ x, x = wr := ⟨wr, rfl⟩
      subst hw2
      obtain ⟨n, HNN⟩ : ∃ n, Hid (min q 100 = n) := ⟨_, rfl⟩
      obtain ⟨m, HMM⟩ : ∃ m, Hid (min F q = m) := ⟨_, rfl⟩
      rw [HNN.out] at HT
      replace HT : Hid (TreeAt w2 w.heap.size (stN n (min 0 5))) := HT
      have hmin := rMin (F : Int) (q : Int) (m := (m : Int)) (by have := HMM.out; omega)
      have hmin2 := rMin (q : Int) 100 (m := (n : Int)) (by have := HNN.out; omega)
      have hn : n ≤ 100 ∧ m ≤ n ∧ m ≤ 8 ∧ n ≤ q ∧ (q = 0 → n = 0) ∧ (0 < q → 0 < n) := by have := HNN.out; have := HMM.out; omega
      go_wp2
      go_loopw [8, 9] (fun i x wr => ∃ k : Nat, k ≤ m ∧ i = .int .i64 (k : Int) ∧ Hid (TreeAt wr w.heap.size (stN n (min k 5))) ∧ Hid (Below w.heap.size w wr)) (fun i _ _ => m - (intOf i).toNat)
      case atStart => exact ⟨0, Nat.zero_le _, rfl, HT, HB⟩
      case round =>
        clear HT HB
        obtain ⟨k, hk, rfl, HT, HB⟩ := hrel
        by_cases hlt : k < m
        · obtain ⟨T, HTT⟩ : ∃ T, Hid (bigN k = T) := ⟨_, Lib.hid rfl⟩
          have GBT : Hid (∀ w', Calls Try.prog 7 #[.int .i64 2000, .int .i64 (k : Int)] w' fun e w'' => e = .returned (.string (bstr T)) ∧ Below w'.heap.size w' w'') := by
            intro w'
            rw [← HTT.out]
            unfold bigN
            exact blocks_any 2000 (by omega) (k : Int) w'
          by_cases hfull : 5 ≤ k
          · skip
            have GD : Hid (∀ (w' : World) (A : Option Addr), TreeAt w' w.heap.size (stN n 5) → CompsAt w' A [⟨2, 0, T⟩] → Calls Try.prog 6 #[.pointer (some ⟨w.heap.size, 0, none⟩), .agg #[.int .i64 4, .int .i64 ((k : Int) + 1), .int .i64 0, .string { data := #[] }, .bool false, .slice A 1 1]] w' fun e w'' => e = .returned (.int .i64 4) ∧ TreeAt w'' w.heap.size (stN n 5) ∧ Only w.heap.size w' w'') := by
              intro w' A h
              rw [← HTT.out]
              intro hA
              exact tDo (do_ed_full A 1 (by omega) (by omega)) (stN_tree_e (by omega) _ (by omega) (by omega)) (actOk_one (by unfold Fit64; omega) (by unfold Fit64; omega) (by unfold Fit64; omega) ⟨by unfold Fit64; simp, by unfold Fit64; simp, fun x hx => by have := bigN_ok k x hx; omega, by show (bigN k).length ≤ _; rw [bigN_len]; unfold maxLen; omega⟩ (by show (bigN k).length ≤ _; rw [bigN_len]; omega)) w' h hA
            replace HT := Lib.hid (show TreeAt wr w.heap.size (stN n 5) from by rw [show min k 5 = 5 from by omega] at HT; exact HT.out)
            go_wp2_with fail
            refine (GBT.out _).mono ?_
            rintro e x1 ⟨rfl, hb⟩
            replace HT := Lib.hid (HT.out.below hb)
            replace HB := Lib.hid (HB.out.trans (hb.mono HB.out.size))
            clear hb
            have HL := Lib.hid (comps_lit x1 2 0 T)
            have hbl := (Below.refl x1.heap.size x1).alloc (Nat.le_refl _) (.cells #[.int .i64 2, .int .i64 0, .string (bstr T)] 32)
            replace HT := Lib.hid (HT.out.below hbl)
            replace HB := Lib.hid (HB.out.trans (hbl.mono HB.out.size))
            clear hbl
            go_wp2_with fail
            refine (GD.out _ _ HT.out HL.out).mono ?_
            rintro e x3 ⟨rfl, ht, ho⟩
            replace HT := Lib.hid ht
            replace HB := Lib.hid (ho.below HB.out (Nat.le_refl _))
            clear ht ho
            clear HL
            go_wp2_with fail
            go_roundw
            case rel => exact ⟨k + 1, by omega, by go_num, by rw [show min (k + 1) 5 = 5 from by omega]; exact HT, HB⟩
            case measure => simp [intOf]; omega

          · skip
            have GD : Hid (∀ (w' : World) (A : Option Addr), TreeAt w' w.heap.size (stN n k) → CompsAt w' A [⟨2, 0, T⟩] → Calls Try.prog 6 #[.pointer (some ⟨w.heap.size, 0, none⟩), .agg #[.int .i64 4, .int .i64 ((k : Int) + 1), .int .i64 0, .string { data := #[] }, .bool false, .slice A 1 1]] w' fun e w'' => e = .returned (.int .i64 0) ∧ TreeAt w'' w.heap.size (stN n (k + 1)) ∧ Only w.heap.size w' w'') := by
              intro w' A h
              rw [← HTT.out]
              intro hA
              exact tDo (do_ed A 1 (by omega) (by omega)) (stN_tree_e (by omega) _ (by omega) (by omega)) (actOk_one (by unfold Fit64; omega) (by unfold Fit64; omega) (by unfold Fit64; omega) ⟨by unfold Fit64; simp, by unfold Fit64; simp, fun x hx => by have := bigN_ok k x hx; omega, by show (bigN k).length ≤ _; rw [bigN_len]; unfold maxLen; omega⟩ (by show (bigN k).length ≤ _; rw [bigN_len]; omega)) w' h hA
            replace HT := Lib.hid (show TreeAt wr w.heap.size (stN n k) from by rw [show min k 5 = k from by omega] at HT; exact HT.out)
            go_wp2_with fail
            refine (GBT.out _).mono ?_
            rintro e x1 ⟨rfl, hb⟩
            replace HT := Lib.hid (HT.out.below hb)
            replace HB := Lib.hid (HB.out.trans (hb.mono HB.out.size))
            clear hb
            have HL := Lib.hid (comps_lit x1 2 0 T)
            have hbl := (Below.refl x1.heap.size x1).alloc (Nat.le_refl _) (.cells #[.int .i64 2, .int .i64 0, .string (bstr T)] 32)
            replace HT := Lib.hid (HT.out.below hbl)
            replace HB := Lib.hid (HB.out.trans (hbl.mono HB.out.size))
            clear hbl
            go_wp2_with fail
            refine (GD.out _ _ HT.out HL.out).mono ?_
            rintro e x3 ⟨rfl, ht, ho⟩
            replace HT := Lib.hid ht
            replace HB := Lib.hid (ho.below HB.out (Nat.le_refl _))
            clear ht ho
            clear HL
            go_wp2_with fail
            go_roundw
            case rel => exact ⟨k + 1, by omega, by go_num, by rw [show min (k + 1) 5 = k + 1 from by omega]; exact HT, HB⟩
            case measure => simp [intOf]; omega

        · obtain rfl : k = m := by omega
          obtain ⟨w3, hw3⟩ : ∃ x, x = wr := ⟨wr, rfl⟩
          subst hw3
          by_cases hz : q = 0
          · have hzI : ¬ (0 : Int) < (q : Int) := by omega
            have GS := Lib.hid (fun (w' : World) h => nodes_any (some ⟨w.heap.size, 0, none⟩) (stN n (min k 5)) (by rw [stN_len]; omega) (stN_tree_e (n := n) (by omega) (min k 5) (by omega) (by omega)).slim w' h)
            rw [stN_len] at GS
            clear hn hz HNN HMM
            go_wp2_with fail
            refine (GS.out _ HT.out.ptr).mono ?_
            rintro e x7 ⟨A', c', rfl, _, hb⟩
            replace HT := Lib.hid (HT.out.below hb)
            replace HB := Lib.hid (HB.out.trans (hb.mono HB.out.size))
            clear hb
            go_wp2_with fail
            refine (GA.out _).mono ?_
            rintro e x8 ⟨rfl, hb⟩
            replace HT := Lib.hid (HT.out.below hb)
            replace HB := Lib.hid (HB.out.trans (hb.mono HB.out.size))
            clear hb
            go_wp2
            go_ret
            exact ⟨rfl, HB.out⟩
          · obtain ⟨m, rfl⟩ : ∃ m, m = k := ⟨k, rfl⟩
            obtain ⟨E, HE⟩ : ∃ E, Hid (min m 5 = E) := ⟨_, rfl⟩
            rw [HE.out] at HT
            have hE : E ≤ 5 ∧ E ≤ n := by have := HE.out; omega
            have t0 := stN_tree_e (n := n) (by omega) E (by omega) (by omega)
            have t1 := t0.does ⟨2, 1, 0, [], false, none, 0, []⟩
            rw [do_rm (by omega)] at t1
            have t2 := t1.does ⟨1, 500, 0, [122], false, none, 0, []⟩
            rw [do_z (by omega) (by omega)] at t2
            have t3 := t2.does ⟨4, 500, 0, [], false, none, 1, [⟨2, 0, [97]⟩]⟩
            rw [do_za none 1 (by omega) (by omega) (by omega)] at t3
            have hlen : (m1N n E ++ [(⟨500, 0, [122], false, [97]⟩ : NodeV)]).length = n := by simp [m1N_len]; omega
            have G1 : Hid (∀ w', TreeAt w' w.heap.size (stN n E) → Calls Try.prog 6 #[.pointer (some ⟨w.heap.size, 0, none⟩), .agg #[.int .i64 2, .int .i64 1, .int .i64 0, .string { data := #[] }, .bool false, .slice none 0 0]] w' fun e w'' => e = .returned (.int .i64 0) ∧ TreeAt w'' w.heap.size (m1N n E) ∧ Only w.heap.size w' w'') := fun w' h => tDo (do_rm (by omega)) t0 (actOk_plain (by unfold Fit64; omega) (by unfold Fit64; omega) (by unfold Fit64; omega) (by simp) (by simp)) w' h (comps_none w')
            have G2 : Hid (∀ w', TreeAt w' w.heap.size (m1N n E) → Calls Try.prog 6 #[.pointer (some ⟨w.heap.size, 0, none⟩), .agg #[.int .i64 1, .int .i64 500, .int .i64 0, .string { data := #[122] }, .bool false, .slice none 0 0]] w' fun e w'' => e = .returned (.int .i64 0) ∧ TreeAt w'' w.heap.size (m1N n E ++ [zN]) ∧ Only w.heap.size w' w'') := fun w' h => tDo (do_z (by omega) (by omega)) t1 (actOk_plain (by unfold Fit64; omega) (by unfold Fit64; omega) (by unfold Fit64; omega) (by simp) (by simp)) w' h (comps_none w')
            have G3 : Hid (∀ (w' : World) (A : Option Addr), TreeAt w' w.heap.size (m1N n E ++ [zN]) → CompsAt w' A [⟨2, 0, [97]⟩] → Calls Try.prog 6 #[.pointer (some ⟨w.heap.size, 0, none⟩), .agg #[.int .i64 4, .int .i64 500, .int .i64 0, .string { data := #[] }, .bool false, .slice A 1 1]] w' fun e w'' => e = .returned (.int .i64 0) ∧ TreeAt w'' w.heap.size (m1N n E ++ [⟨500, 0, [122], false, [97]⟩]) ∧ Only w.heap.size w' w'') := fun w' A h hA => tDo (do_za A 1 (by omega) (by omega) (by omega)) t2 (actOk_one (by unfold Fit64; omega) (by unfold Fit64; omega) (by unfold Fit64; omega) ⟨by unfold Fit64; decide, by unfold Fit64; decide, by simp, by unfold maxLen; simp⟩ (by simp)) w' h hA
            have GS := Lib.hid (fun (w' : World) h => nodes_any (some ⟨w.heap.size, 0, none⟩) (m1N n E ++ [⟨500, 0, [122], false, [97]⟩]) (by omega) t3.slim w' h)
            rw [hlen] at GS
            clear t0 t1 t2 t3 hlen
            go_wp2_with fail
            refine (G1.out _ HT.out).mono ?_
            rintro e x1 ⟨rfl, ht, ho⟩
            replace HT := Lib.hid ht
            replace HB := Lib.hid (ho.below HB.out (Nat.le_refl _))
            clear ht ho
            go_wp2_with fail
            refine (G2.out _ HT.out).mono ?_
            rintro e x2 ⟨rfl, ht, ho⟩
            replace HT := Lib.hid ht
            replace HB := Lib.hid (ho.below HB.out (Nat.le_refl _))
            clear ht ho
            have HL := Lib.hid (comps_lit x2 2 0 [97])
            have hbl := (Below.refl x2.heap.size x2).alloc (Nat.le_refl _) (.cells #[.int .i64 2, .int .i64 0, .string (bstr [97])] 32)
            replace HT := Lib.hid (HT.out.below hbl)
            replace HB := Lib.hid (HB.out.trans (hbl.mono HB.out.size))
            clear hbl
            go_wp2_with fail
            refine (G3.out _ _ HT.out HL.out).mono ?_
            rintro e x3 ⟨rfl, ht, ho⟩
            replace HT := Lib.hid ht
            replace HB := Lib.hid (ho.below HB.out (Nat.le_refl _))
            clear ht ho
            clear HL
            go_wp2_with fail
            refine (GS.out _ HT.out.ptr).mono ?_
            rintro e x7 ⟨A', c', rfl, _, hb⟩
            replace HT := Lib.hid (HT.out.below hb)
            replace HB := Lib.hid (HB.out.trans (hb.mono HB.out.size))
            clear hb
            go_wp2_with fail
            refine (GA.out _).mono ?_
            rintro e x8 ⟨rfl, hb⟩
            replace HT := Lib.hid (HT.out.below hb)
            replace HB := Lib.hid (HB.out.trans (hb.mono HB.out.size))
            clear hb
            go_wp2
            go_ret
            exact ⟨rfl, HB.out⟩

end Go.Proofs.Ytkckgchohnkkpaa
