/- The law DiskSafe: what was flushed is there behind each crash, where nothing was written over it; elsewhere a sector is old, new, or begins new and ends old. No condition beyond the arguments' own bounds. -/
import Derived.Test.YtnjgjkfdblpddaaReadCap
namespace Go.Proofs.Ytnjgjkfdblpddaa
open Go.RowKit Go.Deep

theorem arr_info : (Try.prog.info? 42).map (fun i => (i.zero, i.size)) = some (some (.agg (List.replicate 32 (Value.slice none 0 0)).toArray), 32) := by kernel_rfl
theorem zero_arr : ∃ Z : Array Value, Z = (List.replicate 32 (Value.slice none 0 0)).toArray ∧ ∀ w, (zeroValue 42).run Try.prog w = .ok (.agg Z) w := ⟨_, rfl, (zero_of_info arr_info).1⟩
theorem cnts_info : (Try.prog.info? 47).map (fun i => (i.zero, i.size)) = some (some (.agg (List.replicate 32 (Value.int .i64 0)).toArray), 32) := by kernel_rfl
theorem zero_cnts : ∃ Z : Array Value, Z = (List.replicate 32 (Value.int .i64 0)).toArray ∧ ∀ w, (zeroValue 47).run Try.prog w = .ok (.agg Z) w := ⟨_, rfl, (zero_of_info cnts_info).1⟩

/-- The writes of a list of numbers. -/
def wrs (B : Int → List Nat) (l : List Int) : List (Nat × List Nat) := l.map fun x => (rnd x 32, B x)
theorem wrs_take {B : Int → List Nat} {l : List Int} {i : Nat} (h : i < l.length) : wrs B (l.take (i + 1)) = wrs B (l.take i) ++ [(rnd l[i] 32, B l[i])] := by
  rw [wrs, List.take_succ_eq_append_getElem h, List.map_append]
  rfl
theorem wrs_len (B : Int → List Nat) (l : List Int) : (wrs B l).length = l.length := by simp [wrs]
theorem wrs_mem {B : Int → List Nat} {l : List Int} {p : Nat × List Nat} (h : p ∈ wrs B l) : ∃ x, p = (rnd x 32, B x) := by
  obtain ⟨x, _, rfl⟩ := List.mem_map.1 h
  exact ⟨x, rfl⟩
theorem over_if (j q : Nat) (l : List Nat) (C : List (Nat × List Nat)) (b : Option (List Nat)) : (if j = q then some l else some (secB (over j C b))) = some (secB (over j (C ++ [(q, l)]) b)) := by
  rw [over_snoc]
  by_cases h : j = q
  · rw [if_pos h, if_pos h.symm]; rfl
  · rw [if_neg h, if_neg (Ne.symm h)]

set_option maxHeartbeats 16000000 in
set_option maxRecDepth 100000 in
theorem diskSafe_any (A : Option Addr) (a : List Int) (c : Nat) (A2 : Option Addr) (b : List Int) (c2 : Nat) (A3 : Option Addr) (p : List Int) (c3 : Nat) (hc : a.length ≤ maxLen) (hc2 : b.length ≤ maxLen) (hc3 : p.length ≤ maxLen) (w : World) (hat : IntsAt w A a) (hat2 : IntsAt w A2 b) (hat3 : IntsAt w A3 p) :
    Calls Try.prog 5 #[.slice A a.length c, .slice A2 b.length c2, .slice A3 p.length c3] w fun e w' => e = .returned (.bool true) ∧ Below w.heap.size w w' := by
  have GA := Lib.hid awake_any
  have HSA := Lib.hid hat; have HSB := Lib.hid hat2; have HSP := Lib.hid hat3
  clear hat hat2 hat3
  simp only [maxLen] at hc hc2 hc3
  by_cases h1 : 20 < a.length
  · go_enter Try.func5, Try.ntmps5
    go_wp2_with fail
    refine (GA.out w).mono ?_
    rintro e w3 ⟨rfl, hb3⟩
    have HB3 := Lib.hid hb3; clear hb3
    go_wp2
    go_ret
    exact ⟨rfl, HB3.out⟩
  by_cases h2 : 20 < b.length
  · go_enter Try.func5, Try.ntmps5
    go_wp2_with fail
    refine (GA.out w).mono ?_
    rintro e w3 ⟨rfl, hb3⟩
    have HB3 := Lib.hid hb3; clear hb3
    go_wp2
    go_ret
    exact ⟨rfl, HB3.out⟩
  by_cases h3 : 5 < p.length
  · go_enter Try.func5, Try.ntmps5
    go_wp2_with fail
    refine (GA.out w).mono ?_
    rintro e w3 ⟨rfl, hb3⟩
    have HB3 := Lib.hid hb3; clear hb3
    go_wp2
    go_ret
    exact ⟨rfl, HB3.out⟩
  have GB := Lib.hid (fun n w => block_sec n w)
  have HLN := Lib.hid (fun n => blks_length 64 n)
  have HLB : Hid (∀ n, ∀ x ∈ blks 64 n, x < 256) := fun n x hx => by have := blks_lt 64 n x hx; omega
  obtain ⟨B, HB⟩ : ∃ B : Int → List Nat, Hid (blks 64 = B) := ⟨_, Lib.hid rfl⟩
  rw [HB.out] at GB HLN HLB
  obtain ⟨Z, hZs, hZ⟩ := zero_arr
  have HZ := Lib.hid hZ; have HZS := Lib.hid hZs; clear hZ hZs
  go_enter Try.func5, Try.ntmps5
  go_wp2_with fail
  refine (alone_new (n := 32) (by omega) (by omega) w).mono ?_
  rintro e w1 ⟨g, rfl, hal, hb1⟩
  have HAL := Lib.hid hal; have HB1 := Lib.hid hb1
  clear hal hb1
  go_wp2_with (first
    | (refine wpList_alloc_z rfl 42 rfl (.agg Z) HZ.out ?_)
    | fail)
  have HST0 := Lib.hid (st_start HAL.out Z HZS.out)
  have HBS : Hid (Below w.heap.size w ((w1.alloc (.cells Z 42)).alloc (.cells Z 42))) := (HB1.out.alloc HB1.out.size _).alloc (by have := HB1.out.size; simp; omega) _
  obtain ⟨b9, HB9⟩ : ∃ x, Hid (w1.heap.size = x) := ⟨_, Lib.hid rfl⟩
  obtain ⟨b10, HB10⟩ : ∃ x, Hid (b9 + 1 = x) := ⟨_, Lib.hid rfl⟩
  rw [HB9.out] at HST0 ⊢
  rw [HB10.out] at HST0 ⊢
  have HNB : Hid (b9 ≠ b10) := by show _ ≠ _; have := HB10.out; omega
  generalize (w1.alloc (.cells Z 42)).alloc (.cells Z 42) = w2 at HST0 HBS ⊢
  obtain ⟨E, HE⟩ : ∃ E : Nat → Prop, Hid ((fun x => x = b9 ∨ x = b10) = E) := ⟨_, Lib.hid rfl⟩
  rw [HE.out] at HST0
  have HE9 : Hid (E b9) := by show E b9; rw [← HE.out]; exact .inl rfl
  have HE10 : Hid (E b10) := by show E b10; rw [← HE.out]; exact .inr rfl
  clear HAL HB1 HZ HZS
  have hmk : ∀ w : World, (Instr.makeSlice 41 (.int .i64 64) (.int .i64 64)).run Try.prog w = .ok (.slice (some ⟨w.heap.size, 0, none⟩) 64 64) (w.alloc (.cells (madeCells #[.int .u8 0] 64) 5)) := run_make_row' (P := Try.prog) 41 5 (.int .u8 0) 1 Try.underlying41 u8_info rfl .i64 .i64 64 (by omega) (by omega)
  go_loopw [11] (fun i wr => ∃ k : Nat, k ≤ 32 ∧ i = .int .i64 k ∧ St w.heap.size E g b9 b10 (onD (List.replicate 32 none) [] 0) (fun j => if j < k then some noughts else none) (fun j => if j < k then some noughts else none) wr ∧ Below w.heap.size w wr) (fun i _ => 32 - (intOf i).toNat)
  case atStart => exact ⟨0, by omega, rfl, HST0.out.congr (fun k _ => by rw [if_neg (by omega)]) (fun k _ => by rw [if_neg (by omega)]), HBS.out⟩
  case round =>
    obtain ⟨k, hk, rfl, hst, hb⟩ := hrel
    have HS := Lib.hid hst; have HBW := Lib.hid hb
    clear hst hb
    by_cases hlt : k < 32
    · have hbel : Below wr.heap.size wr (wr.alloc (.cells (madeCells #[.int .u8 0] 64) 5)) := (Below.refl _ _).alloc (Nat.le_refl _) _
      obtain ⟨⟨v9, c9⟩, f9, _, _⟩ := (HS.out.below hbel).cells hlt
      have hold := HS.out.old hbel (zeros_made wr 64) (Nat.le_refl _) (List.length_replicate ..) (fun x hx => by rw [List.eq_of_mem_replicate hx]; omega) (Nat.le_refl 64) k
      obtain ⟨v, hcv, _, ⟨u, hu⟩, hfu, _, hst2⟩ := hold.copy hlt
      obtain rfl : v = .slice (some ⟨wr.heap.size, 0, none⟩) 64 64 := by
        rw [World.cell?_setCell_same _ _ _ c9] at hcv
        injection hcv with hcv
        exact hcv.symm
      have HST2 := Lib.hid hst2
      have HBX : Hid (Below w.heap.size w (((wr.alloc (.cells (madeCells #[.int .u8 0] 64) 5)).setCell ⟨b9, k, none⟩ (.slice (some ⟨wr.heap.size, 0, none⟩) 64 64)).setCell ⟨b10, k, none⟩ (.slice (some ⟨wr.heap.size, 0, none⟩) 64 64))) := by
        have h9 := (HS.out.lt.2.2 b9 HE9.out).1
        have h10 := (HS.out.lt.2.2 b10 HE10.out).1
        exact ((HBW.out.trans (hbel.mono HBW.out.size)).setCell h9 _).setCell h10 _
      clear hold hst2 hbel
      go_wp2_with fail
      go_roundw
      case measure => simp [intOf]; omega
      refine ⟨k + 1, by omega, by go_num, HST2.out.congr (fun j _ => ?_) (fun j _ => ?_), HBX.out⟩
      · by_cases h : j = k
        · subst h; simp [noughts]
        · rw [if_neg h]
          by_cases h2 : j < k
          · rw [if_pos h2, if_pos (by omega)]
          · rw [if_neg h2, if_neg (by omega)]
      · by_cases h : j = k
        · subst h; simp [noughts]
        · rw [if_neg h]
          by_cases h2 : j < k
          · rw [if_pos h2, if_pos (by omega)]
          · rw [if_neg h2, if_neg (by omega)]
    · obtain rfl : k = 32 := by omega
      have HS1 : Hid (St w.heap.size E g b9 b10 (onD (List.replicate 32 none) (wrs B (a.take 0)) 0) (fun j => some (secB (over j (wrs B (a.take 0)) none))) (fun j => some (secB (over j (wrs B (a.take 0)) none))) wr) := HS.out.congr (fun j hj => by rw [if_pos hj]; rfl) (fun j hj => by rw [if_pos hj]; rfl)
      clear HS hmk
      go_wp2_with fail
      go_loopw [12] (fun i wr => ∃ k : Nat, k ≤ a.length ∧ i = .int .i64 k ∧ St w.heap.size E g b9 b10 (onD (List.replicate 32 none) (wrs B (a.take k)) k) (fun j => some (secB (over j (wrs B (a.take k)) none))) (fun j => some (secB (over j (wrs B (a.take k)) none))) wr ∧ Below w.heap.size w wr) (fun i _ => a.length - (intOf i).toNat)
      case atStart => exact ⟨0, Nat.zero_le _, rfl, HS1.out, HBW.out⟩
      case round =>
        clear HS1 HBW
        obtain ⟨k, hk, rfl, hst, hb⟩ := hrel
        have HS := Lib.hid hst; have HBW := Lib.hid hb
        clear hst hb
        by_cases hlt : k < a.length
        · obtain ⟨ab, ao, rfl, hab⟩ := HSA.out.form (by omega)
          have q0 := (HSA.out.below HBW.out).cell hlt
          have HWT := Lib.hid (wrs_take (B := B) hlt)
          obtain ⟨x, HX⟩ : ∃ x, Hid (a[k] = x) := ⟨_, Lib.hid rfl⟩
          rw [HX.out] at q0 HWT
          have hq := rnd_lt x (n := 32) (by omega)
          have GR := Lib.hid (fun w => alikeRound_any x 32 (by omega) (by omega) w)
          obtain ⟨q, HQ⟩ : ∃ q, Hid (rnd x 32 = q) := ⟨_, Lib.hid rfl⟩
          rw [HQ.out] at GR hq HWT
          clear hab
          go_wp2_with fail
          refine (GR.out _).mono ?_
          rintro e w' ⟨rfl, rfl⟩
          go_wp2_with fail
          refine (GB.out x wr).mono ?_
          rintro e w3 ⟨gb, cb, rfl, hat, hge, hlt3, hbel, _⟩
          have HAT := Lib.hid hat; have HGE := Lib.hid hge; have HBE := Lib.hid hbel
          clear hat hge hlt3 hbel
          go_wp2_with fail
          obtain ⟨O, hlO, hstep⟩ := (HS.out.below HBE.out).land
          have HSTP := Lib.hid hstep
          have gw := landWrite_any O g _ (by show k ≤ 1099511627776; omega) (by show (wrs B (a.take k)).length ≤ 1048576; rw [wrs_len, List.length_take]; omega) (q : Int) (some ⟨gb, 0, none⟩) (B x) cb w3 HAT.out (fun y hy => by injection hy with hy; subst hy; show gb ≠ g; have := HS.out.lt; have := HGE.out; omega) hlO
          rw [HLN.out, on_write (by show q < (List.replicate 32 none).length; rw [List.length_replicate]; exact hq) (HLN.out _)] at gw
          clear hlO hstep
          refine gw.mono ?_
          clear gw
          rintro e w4 ⟨rfl, he⟩
          obtain ⟨hs4, hb4, _⟩ := HSTP.out _ _ he
          have HS4 := Lib.hid hs4
          have HB4 : Hid (Below w.heap.size w w4) := HBW.out.trans ((HBE.out.mono HBW.out.size).trans hb4)
          clear hs4 hb4 he HSTP
          have q1 := (HSA.out.below HB4.out).cell hlt
          rw [HX.out] at q1
          clear q0
          go_wp2_with fail
          refine (GB.out x w4).mono ?_
          rintro e w5 ⟨gb2, cb2, rfl, hat, hge, hlt5, hbel, hcap⟩
          obtain ⟨⟨v9, c9⟩, f9, _, _⟩ := (HS4.out.below hbel).cells hq
          have hold := HS4.out.old hbel hat hge (HLN.out x) (HLB.out x) hcap q
          obtain ⟨v, hcv, _, ⟨u, hu⟩, hfu, _, hst2⟩ := hold.copy hq
          obtain rfl : v = .slice (some ⟨gb2, 0, none⟩) 64 cb2 := by
            rw [World.cell?_setCell_same _ _ _ c9] at hcv
            injection hcv with hcv
            exact hcv.symm
          have HST2 := Lib.hid hst2
          have HBX : Hid (Below w.heap.size w ((w5.setCell ⟨b9, q, none⟩ (.slice (some ⟨gb2, 0, none⟩) 64 cb2)).setCell ⟨b10, q, none⟩ (.slice (some ⟨gb2, 0, none⟩) 64 cb2))) := by
            have h9 := (HS4.out.lt.2.2 b9 HE9.out).1
            have h10 := (HS4.out.lt.2.2 b10 HE10.out).1
            exact ((HB4.out.trans (hbel.mono HB4.out.size)).setCell h9 _).setCell h10 _
          clear hold hst2 hbel hat hge hlt5 hcap q1
          go_wp2_with fail
          go_roundw
          case measure => simp [intOf]; omega
          refine ⟨k + 1, by omega, by go_num, ?_, HBX.out⟩
          rw [HWT.out]
          exact HST2.out.congr (fun j _ => over_if j q (B x) _ _) (fun j _ => by rw [← over_if j q (B x)]; by_cases h : j = q; (subst h; simp); (rw [if_neg h, if_neg h]))
        · obtain rfl : k = a.length := by omega
          rw [List.take_length] at HS
          obtain ⟨Ca, HCA⟩ : ∃ C, Hid (wrs B a = C) := ⟨_, Lib.hid rfl⟩
          have HC64 : Hid (∀ p ∈ Ca, p.1 < 32 ∧ p.2.length = 64) := fun p hp => by
            rw [← HCA.out] at hp
            obtain ⟨x, rfl⟩ := wrs_mem hp
            exact ⟨rnd_lt x (by omega), HLN.out x⟩
          have HCL : Hid (Ca.length = a.length) := by show _ = _; rw [← HCA.out]; exact wrs_len B a
          rw [HCA.out] at HS
          have HF1 : Hid ((onD (List.replicate 32 none) Ca a.length).Fit) := ⟨by show 0 < 32; omega, by show 32 ≤ 65536; omega, fun o ho => by rw [List.eq_of_mem_replicate ho]; simp [secB, noughts], HC64.out⟩
          go_wp2_with fail
          obtain ⟨O, hlO, hstep⟩ := HS.out.land
          have HSTP := Lib.hid hstep
          refine (landFlush_any O g _ (by show a.length ≤ 1099511627776; omega) (by show Ca.length ≤ 1048576; rw [HCL.out]; omega) HF1.out wr hlO).mono ?_
          rw [on_flush]
          clear hlO hstep
          rintro e w3 ⟨rfl, hl3, ho3⟩
          obtain ⟨hs3, hb3, _⟩ := HSTP.out _ _ ⟨O, fun _ h => .inl h, hl3, ho3⟩
          obtain ⟨S, HSS⟩ : ∃ S, Hid (fold Ca (List.replicate 32 none) = S) := ⟨_, Lib.hid rfl⟩
          have HSL : Hid (S.length = 32) := by show _ = _; rw [← HSS.out, fold_length, List.length_replicate]
          have HSLK : Hid (∀ j, j < 32 → S[j]? = some (over j Ca none)) := fun j hj => by
            rw [← HSS.out, fold_look _ _ _ (by rw [List.length_replicate]; exact hj), List.getElem?_replicate, if_pos hj]
            rfl
          have HSEC : Hid (∀ o ∈ S, (secB o).length = 64) := by
            show ∀ o ∈ S, _
            rw [← HSS.out]
            exact fold_secs Ca _ (fun p hp => (HC64.out p hp).2) fun o ho => by rw [List.eq_of_mem_replicate ho]; simp [secB, noughts]
          rw [HSS.out] at hs3
          have HS3 : Hid (St w.heap.size E g b9 b10 (onD S [] (a.length + 1)) (fun j => some (secB (S[j]?.getD none))) (fun j => some (secB (S[j]?.getD none))) w3) := hs3.congr (fun j hj => by rw [HSLK.out j hj]; rfl) (fun j hj => by rw [HSLK.out j hj]; rfl)
          have HB3 : Hid (Below w.heap.size w w3) := HBW.out.trans hb3
          clear hs3 hb3 hl3 ho3 HSTP HS HBW HSS
          obtain ⟨Y, hYs, hY⟩ := zero_cnts
          have HY := Lib.hid hY; have HYS := Lib.hid hYs; clear hY hYs
          go_wp2_with (first
            | (refine wpList_alloc_z rfl 47 rfl (.agg Y) HY.out ?_)
            | fail)
          have HSM := Lib.hid (HS3.out.more HB3.out.size (.cells Y 47))
          have hrow : (w3.alloc (.cells Y 47)).rowIs w3.heap.size 47 32 (fun _ => .int .i64 0) := by
            have := World.rowIs_alloc w3 Y 47 (fun _ => .int .i64 0) (fun i hi => by
              rw [HYS.out, List.size_toArray, List.length_replicate] at hi
              rw [HYS.out, List.getElem?_toArray, List.getElem?_replicate, if_pos hi])
            rwa [show Y.size = 32 by rw [HYS.out, List.size_toArray, List.length_replicate]] at this
          have HROW := Lib.hid hrow; clear hrow
          have HBM : Hid (Below w.heap.size w (w3.alloc (.cells Y 47))) := HB3.out.alloc HB3.out.size _
          have HN9 : Hid (w3.heap.size ≠ b9 ∧ w3.heap.size ≠ b10) := by
            have h9 := (HS3.out.lt.2.2 b9 HE9.out).2.1
            have h10 := (HS3.out.lt.2.2 b10 HE10.out).2.1
            exact ⟨by omega, by omega⟩
          obtain ⟨b14, HB14⟩ : ∃ x, Hid (w3.heap.size = x) := ⟨_, Lib.hid rfl⟩
          rw [HB14.out] at HSM HROW HN9 ⊢
          obtain ⟨E2, HE2⟩ : ∃ P : Nat → Prop, Hid ((fun x => E x ∨ x = b14) = P) := ⟨_, Lib.hid rfl⟩
          rw [HE2.out] at HSM
          have HE29 : Hid (E2 b9) := by show E2 b9; rw [← HE2.out]; exact .inl HE9.out
          have HE210 : Hid (E2 b10) := by show E2 b10; rw [← HE2.out]; exact .inl HE10.out
          have HE214 : Hid (E2 b14) := by show E2 b14; rw [← HE2.out]; exact .inr rfl
          generalize w3.alloc (.cells Y 47) = w4 at HSM HROW HBM ⊢
          clear HS3 HB3 HY HYS
          go_loopw [15] (fun i wr => ∃ k : Nat, k ≤ b.length ∧ i = .int .i64 k ∧ St w.heap.size E2 g b9 b10 (onD S (wrs B (b.take k)) (a.length + 1 + k)) (fun j => some (secB (S[j]?.getD none))) (fun j => some (secB (over j (wrs B (b.take k)) (S[j]?.getD none)))) wr ∧
            wr.rowIs b14 47 32 (fun j => .int .i64 (cnt j (wrs B (b.take k)) : Int)) ∧ Below w.heap.size w wr) (fun i _ => b.length - (intOf i).toNat)
          case atStart => exact ⟨0, Nat.zero_le _, rfl, HSM.out, HROW.out, HBM.out⟩
          case round =>
            clear HSM HROW HBM
            obtain ⟨k, hk, rfl, hst, hrw, hb⟩ := hrel
            have HS := Lib.hid hst; have HRW := Lib.hid hrw; have HBW := Lib.hid hb
            clear hst hrw hb
            by_cases hlt : k < b.length
            · obtain ⟨ab, ao, rfl, hab⟩ := HSB.out.form (by omega)
              have q0 := (HSB.out.below HBW.out).cell hlt
              have HWT := Lib.hid (wrs_take (B := B) hlt)
              obtain ⟨x, HX⟩ : ∃ x, Hid (b[k] = x) := ⟨_, Lib.hid rfl⟩
              rw [HX.out] at q0 HWT
              have hq := rnd_lt x (n := 32) (by omega)
              have GR := Lib.hid (fun w => alikeRound_any x 32 (by omega) (by omega) w)
              obtain ⟨q, HQ⟩ : ∃ q, Hid (rnd x 32 = q) := ⟨_, Lib.hid rfl⟩
              rw [HQ.out] at GR hq HWT
              clear hab
              go_wp2_with fail
              refine (GR.out _).mono ?_
              rintro e w' ⟨rfl, rfl⟩
              go_wp2_with fail
              refine (GB.out x wr).mono ?_
              rintro e w5 ⟨gb, cb, rfl, hat, hge, hlt5, hbel, _⟩
              have HAT := Lib.hid hat; have HGE := Lib.hid hge; have HBE := Lib.hid hbel
              clear hat hge hlt5 hbel
              go_wp2_with fail
              obtain ⟨O, hlO, hstep⟩ := (HS.out.below HBE.out).land
              have HSTP := Lib.hid hstep
              have gw := landWrite_any O g _ (by show a.length + 1 + k ≤ 1099511627776; omega) (by show (wrs B (b.take k)).length ≤ 1048576; rw [wrs_len, List.length_take]; omega) (q : Int) (some ⟨gb, 0, none⟩) (B x) cb w5 HAT.out (fun y hy => by injection hy with hy; subst hy; show gb ≠ g; have := HS.out.lt; have := HGE.out; omega) hlO
              rw [HLN.out, on_write (by rw [HSL.out]; exact hq) (HLN.out _)] at gw
              clear hlO hstep
              refine gw.mono ?_
              clear gw
              rintro e w6 ⟨rfl, he⟩
              obtain ⟨hs4, hb4, hE4⟩ := HSTP.out _ _ he
              have HS4 := Lib.hid hs4
              have HB4 : Hid (Below w.heap.size w w6) := HBW.out.trans ((HBE.out.mono HBW.out.size).trans hb4)
              have HR4 := Lib.hid ((HRW.out.of_block (HBE.out.block b14 HRW.out.lt)).of_block (hE4 b14 HE214.out))
              clear hs4 hb4 he HSTP hE4
              have q1 := (HSB.out.below HB4.out).cell hlt
              rw [HX.out] at q1
              clear q0
              go_wp2_with fail
              refine (GB.out x w6).mono ?_
              rintro e w7 ⟨gb2, cb2, rfl, hat, hge, hlt7, hbel, hcap⟩
              obtain ⟨_, _, ⟨v10, c10⟩, f10⟩ := (HS4.out.below hbel).cells hq
              have HNEW := Lib.hid (HS4.out.new_ hbel hat hge (HLN.out x) (HLB.out x) hcap q)
              have HBX : Hid (Below w.heap.size w (w7.setCell ⟨b10, q, none⟩ (.slice (some ⟨gb2, 0, none⟩) 64 cb2))) := by
                have h10 := (HS4.out.lt.2.2 b10 HE210.out).1
                exact (HB4.out.trans (hbel.mono HB4.out.size)).setCell h10 _
              have HRX : Hid ((w7.setCell ⟨b10, q, none⟩ (.slice (some ⟨gb2, 0, none⟩) 64 cb2)).rowIs b14 47 32 (fun j => .int .i64 (cnt j (wrs B (b.take k)) : Int))) := (HR4.out.of_block (hbel.block b14 HR4.out.lt)).setOther (a := ⟨b10, q, none⟩) HN9.out.2 _
              have c14 := HRX.out.cell hq
              have f14 := HRX.out.frozen q
              have HCL : Hid (cnt q (wrs B (b.take k)) ≤ 20) := by
                show _ ≤ _
                refine Nat.le_trans (List.countP_le_length ..) ?_
                rw [wrs_len, List.length_take]
                omega
              obtain ⟨m, HM⟩ : ∃ m, Hid (cnt q (wrs B (b.take k)) = m) := ⟨_, Lib.hid rfl⟩
              rw [HM.out] at c14 HCL
              have hm := HCL.out
              clear hbel hat hge hlt7 hcap q1
              go_wp2_with fail
              go_roundw
              case measure => simp [intOf]; omega
              have ho14 : Only b14 (w7.setCell ⟨b10, q, none⟩ (.slice (some ⟨gb2, 0, none⟩) 64 cb2)) ((w7.setCell ⟨b10, q, none⟩ (.slice (some ⟨gb2, 0, none⟩) 64 cb2)).setCell ⟨b14, q, none⟩ (.int .i64 ((m : Int) + 1))) := (Only.refl b14 _).set q _
              refine ⟨k + 1, by omega, by go_num, ?_, ?_, HBX.out.setCell (HS4.out.lt.2.2 b14 HE214.out).1 _⟩
              · have h := HNEW.out.other HE214.out HN9.out.1 HN9.out.2 ho14
                rw [HWT.out]
                exact h.congr (fun j _ => rfl) (fun j _ => over_if j q (B x) _ _)
              · refine (HRX.out.set q _).congr fun j hj => ?_
                rw [HWT.out, cnt_snoc]
                by_cases h : j = q
                · subst h
                  rw [if_pos rfl, if_pos rfl, HM.out]
                  rfl
                · rw [if_neg h, if_neg (Ne.symm h)]
                  rfl
            · obtain rfl : k = b.length := by omega
              rw [List.take_length] at HS HRW
              obtain ⟨C, HCB⟩ : ∃ C, Hid (wrs B b = C) := ⟨_, Lib.hid rfl⟩
              have HC64 : Hid (∀ p ∈ C, p.1 < 32 ∧ p.2.length = 64) := fun p hp => by
                rw [← HCB.out] at hp
                obtain ⟨x, rfl⟩ := wrs_mem hp
                exact ⟨rnd_lt x (by omega), HLN.out x⟩
              have HCL : Hid (C.length = b.length) := by show _ = _; rw [← HCB.out]; exact wrs_len B b
              rw [HCB.out] at HS HRW
              have HF2 : Hid ((onD S C (a.length + 1 + b.length)).Fit) := ⟨by show 0 < S.length; rw [HSL.out]; omega, by show S.length ≤ 65536; rw [HSL.out]; omega, HSEC.out, fun p hp => by show p.1 < S.length ∧ _; rw [HSL.out]; exact HC64.out p hp⟩
              go_wp2_with fail
              refine (alone_crash HS.out.alone (by show C.length ≤ 1048576; rw [HCL.out]; omega) HF2.out A3 p c3 (HSP.out.below HBW.out)).mono ?_
              rintro e w5 ⟨gx, rfl, hal, _, hb5, _⟩
              obtain ⟨DC, HDC⟩ : ∃ x, Hid ((onD S C (a.length + 1 + b.length)).crash p = x) := ⟨_, Lib.hid rfl⟩
              have HDCL : Hid (DC.safe.length = 32) := by show _ = _; rw [← HDC.out, crash_len]; exact HSL.out
              have HSAFE : Hid (∀ k, k < 32 → cnt k C ≤ 1 → ∃ t, t ≤ 64 ∧ secB (DC.look k) = (secB (over k C (S[k]?.getD none))).take t ++ (secB (S[k]?.getD none)).drop t) := by
                intro k hk hc
                rw [← HDC.out]
                refine safe_crash p (by rw [HSL.out]; exact hk) hc (fun q hq => (HC64.out q hq).2) ?_
                rw [List.getElem?_eq_getElem (by rw [HSL.out]; exact hk)]
                exact HSEC.out _ (List.getElem_mem _)
              rw [HDC.out] at hal
              have HCM : Hid (∀ k, cnt k C ≤ 20) := fun k => by
                refine Nat.le_trans (List.countP_le_length ..) ?_
                rw [HCL.out]
                omega
              have HS5 := Lib.hid (HS.out.below hb5)
              have HR5 := Lib.hid (HRW.out.of_block (hb5.block b14 HRW.out.lt))
              have HA5 := Lib.hid hal
              have HB5 : Hid (Below w.heap.size w w5) := HBW.out.trans (hb5.mono HBW.out.size)
              clear hal hb5 HS HRW HBW HF2 HDC HC64 HCB HCL
              go_wp2_with fail
              go_loopw [18] (fun i wr => ∃ k : Nat, k ≤ 32 ∧ i = .int .i64 k ∧ Below w5.heap.size w5 wr) (fun i _ => 32 - (intOf i).toNat)
              case atStart => exact ⟨0, by omega, rfl, Below.refl _ _⟩
              case round =>
                obtain ⟨k, hk, rfl, hb⟩ := hrel
                have HBW := Lib.hid hb
                clear hb
                by_cases hlt : k < 32
                · go_wp2_with fail
                  refine (alone_read64 (HA5.out.below HBW.out) (q := k) (by rw [HDCL.out]; exact hlt)).mono ?_
                  rintro e w6 ⟨gb, _, rfl, hat, hx64, hb6, hlt6⟩
                  have HS6 := Lib.hid ((HS5.out.below HBW.out).below hb6)
                  have HR6 := Lib.hid ((HR5.out.of_block (HBW.out.block b14 HR5.out.lt)))
                  have HR7 := Lib.hid (HR6.out.of_block (hb6.block b14 HR6.out.lt))
                  have HB6 := Lib.hid hb6
                  have HAX := Lib.hid hat
                  have HX64 := Lib.hid hx64
                  have HLX := Lib.hid hlt6
                  have c14 := HR7.out.cell hlt
                  obtain ⟨m, HM⟩ : ∃ m, Hid (cnt k C = m) := ⟨_, Lib.hid rfl⟩
                  rw [HM.out] at c14
                  have hm := HCM.out k
                  rw [HM.out] at hm
                  clear hat hx64 hb6 hlt6 HR6
                  by_cases hcnt : 1 < m
                  · go_wp2_with fail
                    go_roundw
                    case measure => simp [intOf]; omega
                    exact ⟨k + 1, by omega, by go_num, HBW.out.trans (HB6.out.mono HBW.out.size)⟩
                  · obtain ⟨t0, ht0, hX⟩ := HSAFE.out k hlt (by rw [HM.out]; omega)
                    obtain ⟨x1, o1, c1, x2, o2, c2', q1, ha1, hc1, q2, ha2, hO64, hN64, _, _⟩ := HS6.out.get hlt rfl rfl
                    obtain ⟨X, HX⟩ : ∃ X, Hid (secB (DC.look k) = X) := ⟨_, Lib.hid rfl⟩
                    obtain ⟨N, HN⟩ : ∃ X, Hid (secB (over k C (S[k]?.getD none)) = X) := ⟨_, Lib.hid rfl⟩
                    obtain ⟨O, HO⟩ : ∃ X, Hid (secB (S[k]?.getD none) = X) := ⟨_, Lib.hid rfl⟩
                    rw [HX.out] at hX HX64 HAX
                    rw [HN.out] at hX ha2 hN64
                    rw [HO.out] at hX ha1 hO64
                    have HXE := Lib.hid hX
                    have HQ1 := Lib.hid q1; have HQ2 := Lib.hid q2; have HA1 := Lib.hid ha1; have HA2 := Lib.hid ha2; have HC1 := Lib.hid hc1; have HO64 := Lib.hid hO64; have HN64 := Lib.hid hN64
                    have HL9 : Hid (b9 < w6.heap.size) := (HS6.out.lt.2.2 b9 HE29.out).2.1
                    have HL10 : Hid (b10 < w6.heap.size) := (HS6.out.lt.2.2 b10 HE210.out).2.1
                    have HT0 := Lib.hid ht0
                    clear hX q1 q2 ha1 ha2 hc1 hO64 hN64 ht0
                    go_wp2_with fail
                    clear c14
                    go_loopw [21] (fun i wr => ∃ t : Nat, t ≤ 64 ∧ i = .int .i64 t ∧ Below w6.heap.size w6 wr) (fun i _ => 64 - (intOf i).toNat)
                    case atStart => exact ⟨0, by omega, rfl, Below.refl _ _⟩
                    case round =>
                      obtain ⟨t, ht, rfl, hb⟩ := hrel
                      have HBI := Lib.hid hb
                      clear hb
                      by_cases htl : t < 64
                      · obtain ⟨xv, HXV⟩ : ∃ v, Hid (X[t]? = some v) := ⟨_, Lib.hid (List.getElem?_eq_getElem (by rw [HX64.out]; exact htl))⟩
                        obtain ⟨nv, HNV⟩ : ∃ v, Hid (N[t]? = some v) := ⟨_, Lib.hid (List.getElem?_eq_getElem (by rw [HN64.out]; exact htl))⟩
                        have p1 : wr.cell? ⟨gb, t, none⟩ = some (.int .u8 (xv : Int)) := by
                          have h := (HAX.out.below HBI.out).cell (j := t) (by rw [HX64.out]; exact htl)
                          rw [Nat.zero_add] at h
                          rw [h, (List.getElem?_eq_some_iff.1 HXV.out).2]
                        have p2 : wr.cell? ⟨x2, o2 + t, none⟩ = some (.int .u8 (nv : Int)) := by
                          have h := (HA2.out.below HBI.out).cell (j := t) (by rw [HN64.out]; exact htl)
                          rw [h, (List.getElem?_eq_some_iff.1 HNV.out).2]
                        have e1 : ∀ e : ExtK (keepBlocks [gb, b10, x2]) wr.drew, e.val.cell? ⟨gb, t, none⟩ = some (.int .u8 (xv : Int)) := fun e => (cell_of_block (e.property.2 gb (by simp)) _).trans p1
                        have e2 : ∀ e : ExtK (keepBlocks [gb, b10, x2]) wr.drew, e.val.cell? ⟨b10, k, none⟩ = some (.slice (some ⟨x2, o2, none⟩) 64 c2') := fun e => (cell_of_block (e.property.2 b10 (by simp)) _).trans ((cell_of_block (HBI.out.block b10 HL10.out) _).trans HQ2.out)
                        have e3 : ∀ e : ExtK (keepBlocks [gb, b10, x2]) wr.drew, e.val.cell? ⟨x2, o2 + t, none⟩ = some (.int .u8 (nv : Int)) := fun e => (cell_of_block (e.property.2 x2 (by simp)) _).trans p2
                        clear p1 p2
                        go_wp2_with fail
                        have hdt : decide ((t : Int) < 64) = true := decide_eq_true (by omega)
                        refine wp_region_held_lit (keepBlocks [gb, b10, x2]) [(0, true), (1, true), (2, true), (3, true), (4, true), (5, true), (6, true), (7, true), (8, true), (9, true), (10, true), (11, true), (12, true), (13, true), (14, true)] (by kernel_rfl) (by kernel_rfl) (fun _ _ d _ _ h => by cases d <;> exact h) ?_
                        simp only [picked, List.map_cons, List.map_nil, List.getElem?_cons_succ, List.getElem?_cons_zero, Option.getD_some]
                        repeat (refine wpH_quiet (by rfl) (fun K hK => ?_); go_big_quiet_op; refine hK _ ?_; clear hK K)
                        refine wpH_nil ?_
                        clear e1 e2 e3
                        obtain ⟨wt, HWT⟩ : ∃ x, Hid (wr.drew = x) := ⟨_, Lib.hid rfl⟩
                        have HBT : Hid (Below w6.heap.size w6 wt) := by show Below _ _ _; rw [← HWT.out]; exact HBI.out.drew
                        by_cases heq : xv = nv
                        · have hbe : ((xv : Int) == (nv : Int)) = true := by rw [heq]; exact beq_self_eq_true _
                          clear heq
                          rw [HWT.out]
                          go_wp2_with fail
                          go_roundw
                          case measure => simp [intOf]; omega
                          exact ⟨t + 1, by omega, by go_num, HBT.out⟩
                        · have hbe : ((xv : Int) == (nv : Int)) = false := beq_eq_false_iff_ne.2 fun h => heq (by omega)
                          have HNE := Lib.hid heq
                          clear heq
                          rw [HWT.out]
                          go_wp2_with fail
                          have hN64 := HN64.out
                          have ht0 := HT0.out
                          have hD := drop_safe hN64 ht0 HXE.out (at_least (t := t) hN64 ht0 HXE.out (.inl (by rw [HXV.out, HNV.out]; exact fun h => HNE.out (Option.some.inj h))))
                          clear hN64 ht0
                          have HTE := Lib.hid hD
                          clear hD
                          have hs1 : ∀ w : World, (Instr.slice 41 (.slice (some ⟨gb, 0, none⟩) 64 64) (some (.int .i64 (t : Int))) none none).run Try.prog w = .ok (.slice (addrLow (some ⟨gb, 0, none⟩) t 64) (64 - t) (64 - t)) w := fun w => slice_low _ _ _ t ht w
                          have hs2 : ∀ w : World, (Instr.slice 41 (.slice (some ⟨x1, o1, none⟩) 64 c1) (some (.int .i64 (t : Int))) none none).run Try.prog w = .ok (.slice (addrLow (some ⟨x1, o1, none⟩) t c1) (64 - t) (c1 - t)) w := fun w => slice_low _ _ _ t ht w
                          have e0 : ∀ e : ExtK (keepBlocks [gb, b9, x1]) wt.drew, e.val.cell? ⟨b9, k, none⟩ = some (.slice (some ⟨x1, o1, none⟩) 64 c1) := fun e => (cell_of_block (e.property.2 b9 (by simp)) _).trans ((cell_of_block (HBT.out.block b9 HL9.out) _).trans HQ1.out)
                          have e1 : ∀ e : ExtK (keepBlocks [gb, b9, x1]) wt.drew, (convert 41 9 (.slice (addrLow (some ⟨gb, 0, none⟩) t 64) (64 - t) (64 - t))).run Try.prog e.val = .ok (.string (bstr (O.drop t))) e.val := fun e => by
                            have h1 : BytesAt e.val (some ⟨gb, 0, none⟩) X := BytesAt.kept (w := wt.drew) (HAX.out.below HBT.out.drew) e.property.1 (fun _ => e.property.2 gb (by simp))
                            have h2 := (h1.low 64 t (by rw [HX64.out]; omega)).conv (64 - t) 9 Try.underlying9
                            rwa [List.length_drop, HX64.out, HTE.out] at h2
                          have e2 : ∀ e : ExtK (keepBlocks [gb, b9, x1]) wt.drew, (convert 41 9 (.slice (addrLow (some ⟨x1, o1, none⟩) t c1) (64 - t) (c1 - t))).run Try.prog e.val = .ok (.string (bstr (O.drop t))) e.val := fun e => by
                            have h1 : BytesAt e.val (some ⟨x1, o1, none⟩) O := BytesAt.kept (w := wt.drew) (HA1.out.below HBT.out.drew) e.property.1 (fun _ => e.property.2 x1 (by simp))
                            have h2 := (h1.low c1 t (by rw [HO64.out]; exact HC1.out)).conv (c1 - t) 9 Try.underlying9
                            rwa [List.length_drop, HO64.out] at h2
                          clear HTE
                          refine wp_region_held_lit (keepBlocks [gb, b9, x1]) [(0, true), (1, true), (2, true), (3, true), (4, true), (5, true), (6, true), (7, true), (8, true), (9, true), (10, true)] (by kernel_rfl) (by kernel_rfl) (fun _ _ d _ _ h => by cases d <;> exact h) ?_
                          simp only [picked, List.map_cons, List.map_nil, List.getElem?_cons_succ, List.getElem?_cons_zero, Option.getD_some]
                          repeat (refine wpH_quiet (by rfl) (fun K hK => ?_); go_big_quiet_op; refine hK _ ?_; clear hK K)
                          refine wpH_nil ?_
                          clear e0 e1 e2 hs1 hs2
                          go_wp2
                          go_roundw
                          case measure => simp [intOf]; omega
                          exact ⟨k + 1, by omega, by go_num, HBW.out.trans ((HB6.out.trans (HBT.out.drew.mono HB6.out.size)).mono HBW.out.size)⟩
                      · obtain ⟨wt, HWT⟩ : ∃ x, Hid (wr.drew = x) := ⟨_, Lib.hid rfl⟩
                        have HBT : Hid (Below w6.heap.size w6 wt) := by show Below _ _ _; rw [← HWT.out]; exact HBI.out.drew
                        go_wp2_with fail
                        have hdt : decide ((t : Int) < 64) = false := decide_eq_false (by omega)
                        refine wp_region_held_lit (keepBlocks [gb, b10, x2]) [(0, true), (1, true), (2, true), (3, true), (4, true), (5, true), (6, true), (7, true), (8, true), (9, true), (10, true), (11, true), (12, true), (13, true), (14, true)] (by kernel_rfl) (by kernel_rfl) (fun _ _ d _ _ h => by cases d <;> exact h) ?_
                        simp only [picked, List.map_cons, List.map_nil, List.getElem?_cons_succ, List.getElem?_cons_zero, Option.getD_some]
                        repeat (first | (refine wpH_quiet (by rfl) (fun K hK => ?_); go_big_quiet_op; refine hK _ ?_; clear hK K) | (refine wpH_skip (by rfl) ?_; simp only [Act.put, List.setIfInBounds_toArray, List.set_cons_zero, List.set_cons_succ]))
                        refine wpH_nil ?_
                        rw [HWT.out]
                        go_wp2_with fail
                        have hN64 := HN64.out
                        have ht0 := HT0.out
                        have hD := drop_safe hN64 ht0 HXE.out (at_least (t := t) hN64 ht0 HXE.out (.inr (by omega)))
                        clear hN64 ht0
                        have HTE := Lib.hid hD
                        clear hD
                        have hs1 : ∀ w : World, (Instr.slice 41 (.slice (some ⟨gb, 0, none⟩) 64 64) (some (.int .i64 (t : Int))) none none).run Try.prog w = .ok (.slice (addrLow (some ⟨gb, 0, none⟩) t 64) (64 - t) (64 - t)) w := fun w => slice_low _ _ _ t ht w
                        have hs2 : ∀ w : World, (Instr.slice 41 (.slice (some ⟨x1, o1, none⟩) 64 c1) (some (.int .i64 (t : Int))) none none).run Try.prog w = .ok (.slice (addrLow (some ⟨x1, o1, none⟩) t c1) (64 - t) (c1 - t)) w := fun w => slice_low _ _ _ t ht w
                        have e0 : ∀ e : ExtK (keepBlocks [gb, b9, x1]) wt.drew, e.val.cell? ⟨b9, k, none⟩ = some (.slice (some ⟨x1, o1, none⟩) 64 c1) := fun e => (cell_of_block (e.property.2 b9 (by simp)) _).trans ((cell_of_block (HBT.out.block b9 HL9.out) _).trans HQ1.out)
                        have e1 : ∀ e : ExtK (keepBlocks [gb, b9, x1]) wt.drew, (convert 41 9 (.slice (addrLow (some ⟨gb, 0, none⟩) t 64) (64 - t) (64 - t))).run Try.prog e.val = .ok (.string (bstr (O.drop t))) e.val := fun e => by
                          have h1 : BytesAt e.val (some ⟨gb, 0, none⟩) X := BytesAt.kept (w := wt.drew) (HAX.out.below HBT.out.drew) e.property.1 (fun _ => e.property.2 gb (by simp))
                          have h2 := (h1.low 64 t (by rw [HX64.out]; omega)).conv (64 - t) 9 Try.underlying9
                          rwa [List.length_drop, HX64.out, HTE.out] at h2
                        have e2 : ∀ e : ExtK (keepBlocks [gb, b9, x1]) wt.drew, (convert 41 9 (.slice (addrLow (some ⟨x1, o1, none⟩) t c1) (64 - t) (c1 - t))).run Try.prog e.val = .ok (.string (bstr (O.drop t))) e.val := fun e => by
                          have h1 : BytesAt e.val (some ⟨x1, o1, none⟩) O := BytesAt.kept (w := wt.drew) (HA1.out.below HBT.out.drew) e.property.1 (fun _ => e.property.2 x1 (by simp))
                          have h2 := (h1.low c1 t (by rw [HO64.out]; exact HC1.out)).conv (c1 - t) 9 Try.underlying9
                          rwa [List.length_drop, HO64.out] at h2
                        clear HTE
                        refine wp_region_held_lit (keepBlocks [gb, b9, x1]) [(0, true), (1, true), (2, true), (3, true), (4, true), (5, true), (6, true), (7, true), (8, true), (9, true), (10, true)] (by kernel_rfl) (by kernel_rfl) (fun _ _ d _ _ h => by cases d <;> exact h) ?_
                        simp only [picked, List.map_cons, List.map_nil, List.getElem?_cons_succ, List.getElem?_cons_zero, Option.getD_some]
                        repeat (refine wpH_quiet (by rfl) (fun K hK => ?_); go_big_quiet_op; refine hK _ ?_; clear hK K)
                        refine wpH_nil ?_
                        clear e0 e1 e2 hs1 hs2
                        go_wp2
                        go_roundw
                        case measure => simp [intOf]; omega
                        exact ⟨k + 1, by omega, by go_num, HBW.out.trans ((HB6.out.trans (HBT.out.drew.mono HB6.out.size)).mono HBW.out.size)⟩
                · go_wp2_with fail
                  refine (GA.out _).mono ?_
                  rintro e w7 ⟨rfl, hb7⟩
                  have HB7 := Lib.hid hb7; clear hb7
                  go_wp2
                  go_ret
                  exact ⟨rfl, (HB5.out.trans (HBW.out.mono HB5.out.size)).trans (HB7.out.mono (HB5.out.trans (HBW.out.mono HB5.out.size)).size)⟩
end Go.Proofs.Ytnjgjkfdblpddaa
