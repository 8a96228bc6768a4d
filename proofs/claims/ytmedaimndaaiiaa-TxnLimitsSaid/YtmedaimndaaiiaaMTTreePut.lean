/- Three rows of nodes put together to a new one; a row of the call's own with room; the tree's nodes changed. Conditions: no more than 2^20 nodes in all. -/
import Derived.Test.YtmedaimndaaiiaaMPt
import Derived.Test.YtmedaimndaaiiaaMApp
import Derived.Test.YtmedaimndaaiiaaMTBranch
import Derived.Lib.AppendZeros
/- Three rows of nodes put together to a new one; a row of the call's own with room; the tree's nodes changed. Conditions: no more than 2^20 nodes in all. -/
namespace Go.Proofs.Ytmedaimndaaiiaa
open Go.RowKit Go.Deep

set_option maxHeartbeats 1000000 in
set_option maxRecDepth 100000 in
theorem grow_any (n : Nat) (hn : n ≤ 1048576) (w : World) :
    Calls Try.prog 70 #[.slice none 0 0, .int .i64 (n : Int)] w fun e w' => ∃ A c, e = .returned (.slice A 0 c) ∧ OwnN w' w.heap.size A c [] ∧ Below w.heap.size w w' := by
  by_cases h0 : n = 0
  · subst h0
    go_enter Try.func70, Try.ntmps70
    go_wp2
    go_ret
    exact ⟨none, 0, rfl, OwnN.nil _ _, Below.refl _ _⟩
  · obtain ⟨i0, hi0, hz0, hz1, hz2⟩ := info_parts node_info
    have hcut0 : ∀ w, (Instr.slice 38 (.slice none 0 0) none (some (.int .i64 0)) none).run Try.prog w = .ok (.slice none 0 0) w := fun w => by
      have := ncut_high none 0 0 0 (Nat.le_refl _) w
      simpa [nHigh] using this
    have happ := Lib.hid (fun ty => Lib.run_append_nil_zeros (P := Try.prog) w 38 3 ty 57 i0 _ .i64 .i64 Try.underlying38 Try.underlying3 hi0 hz0 n (by omega) (by rw [hz1]; omega) (by omega) (by rw [hz2]; omega))
    obtain ⟨cap, HCAP⟩ : ∃ c, Hid (grownCap w n 0 57 = c) := ⟨_, Lib.hid rfl⟩
    have hge : n ≤ cap := by rw [← HCAP.out]; exact grownCap_ge _ _ _ _
    have hcm : cap ≤ maxLen := by rw [← HCAP.out]; exact grownCap_le_maxLen _ _ _ _ (by unfold maxLen; omega)
    rw [HCAP.out] at happ
    have hcut : ∀ w', (Instr.slice 38 (.slice (some ⟨w.heap.size, 0, none⟩) n cap) none (some (.int .i64 0)) none).run Try.prog w' = .ok (.slice (some ⟨w.heap.size, 0, none⟩) 0 cap) w' := fun w' => by
      have := ncut_high (some ⟨w.heap.size, 0, none⟩) n cap 0 (Nat.zero_le _) w'
      unfold nHigh at this
      rw [if_neg (by omega)] at this
      exact this
    have HOWN : Hid (OwnN (w.drew.alloc (.cells (Builtin.zeroCells (Value.agg #[.int .i64 0, .int .i64 0, .string { data := #[] }, .bool false, .string { data := #[] }]).cells n ++ Builtin.zeroCells (Value.agg #[.int .i64 0, .int .i64 0, .string { data := #[] }, .bool false, .string { data := #[] }]).cells (cap - n)) 57)) w.heap.size (some ⟨w.heap.size, 0, none⟩) cap []) := by
      refine ⟨rfl, .inr ⟨w.heap.size, cap, _, rfl, Nat.le_refl _, heap_alloc_new w.drew _, Nat.zero_le _, hcm, ?_, by simp⟩⟩
      have h5 : (Value.agg #[.int .i64 0, .int .i64 0, .string { data := #[] }, .bool false, .string { data := #[] }]).cells.size = 5 := by kernel_rfl
      rw [Array.size_append, size_zeroCells, size_zeroCells, h5]
      omega
    have HB := Lib.hid ((Below.refl w.heap.size w).drew.alloc (Nat.le_refl _) (.cells (Builtin.zeroCells (Value.agg #[.int .i64 0, .int .i64 0, .string { data := #[] }, .bool false, .string { data := #[] }]).cells n ++ Builtin.zeroCells (Value.agg #[.int .i64 0, .int .i64 0, .string { data := #[] }, .bool false, .string { data := #[] }]).cells (cap - n)) 57))
    obtain ⟨w2, HW2⟩ : ∃ x, Hid (w.drew.alloc (.cells (Builtin.zeroCells (Value.agg #[.int .i64 0, .int .i64 0, .string { data := #[] }, .bool false, .string { data := #[] }]).cells n ++ Builtin.zeroCells (Value.agg #[.int .i64 0, .int .i64 0, .string { data := #[] }, .bool false, .string { data := #[] }]).cells (cap - n)) 57) = x) := ⟨_, Lib.hid rfl⟩
    rw [HW2.out] at HOWN HB happ
    have hpos : ¬ (n : Int) < 0 := by omega
    have hpos2 : (0 : Int) < (n : Int) := by omega
    have hpos3 : 0 < n := by omega
    clear h0 hi0 hz0 hz1 hz2
    go_enter Try.func70, Try.ntmps70
    go_wp2_with (at_builtin
                 refine Lib.wpList_append_run _ rfl (.tmp 20) (.tmp 21) 38 3 rfl _ _ rfl rfl _ _ (happ.out _) ?_)
    go_ret
    exact ⟨_, _, rfl, HOWN.out, HB.out⟩

/-- So many of the rows, one behind the other. -/
def cat (L : Nat → List NodeV) (k : Nat) : List NodeV := (List.range k).flatMap L
theorem cat_zero (L : Nat → List NodeV) : cat L 0 = [] := rfl
theorem cat_succ (L : Nat → List NodeV) (k : Nat) : cat L (k + 1) = cat L k ++ L k := by simp [cat, List.range_succ]
theorem cat_le (L : Nat → List NodeV) {j k : Nat} (h : j ≤ k) : (cat L j).length ≤ (cat L k).length := by
  induction k with
  | zero => obtain rfl : j = 0 := by omega
            exact Nat.le_refl _
  | succ k ih =>
    rcases Nat.lt_or_ge j (k + 1) with g | g
    · have := ih (by omega)
      rw [cat_succ, List.length_append]
      omega
    · obtain rfl : j = k + 1 := by omega
      exact Nat.le_refl _
attribute [irreducible] cat

set_option maxHeartbeats 1000000 in
set_option maxRecDepth 100000 in
theorem concat_any (b : Nat) (L : Nat → List NodeV) (AA : Nat → Option Addr) (CC : Nat → Nat) (hlen : (cat L 3).length ≤ 1048576) (w : World) (hb : b < w.heap.size)
    (hc : ∀ k, k < 3 → w.cell? ⟨b, k, none⟩ = some (.slice (AA k) (L k).length (CC k))) (hn : ∀ k, k < 3 → NodesAt w (AA k) (L k)) :
    Calls Try.prog 57 #[.slice (some ⟨b, 0, none⟩) 3 3] w fun e w' => ∃ A c, e = .returned (.slice A (cat L 3).length c) ∧ OwnN w' w.heap.size A c (cat L 3) ∧ Below w.heap.size w w' := by
  have HC := Lib.hid (fun (w' : World) (hw : Below w.heap.size w w') (k : Nat) (hk : k < 3) => (hw.cell (p := ⟨b, k, none⟩) hb).trans (hc k hk))
  have HN := Lib.hid (fun (w' : World) (hw : Below w.heap.size w w') (k : Nat) (hk : k < 3) => (hn k hk).below hw)
  have GG := Lib.hid (fun n (hn : n ≤ 1048576) w => grow_any n hn w)
  clear hc hn
  have HLE := Lib.hid (fun (k : Nat) (hk : k ≤ 3) => Nat.le_trans (cat_le L hk) hlen)
  go_enter Try.func57, Try.ntmps57
  go_wp2
  go_loopw [3, 5, 11] (fun s3 s5 s11 wr => ∃ (k m : Nat), k ≤ 3 ∧ s3 = .int .i64 (m : Int) ∧ s5 = s5 ∧ s11 = .int .i64 (k : Int) ∧ wr = w ∧ Hid ((cat L k).length = m)) (fun _ _ i _ => 3 - (intOf i).toNat)
  case atStart => exact ⟨0, 0, Nat.zero_le _, rfl, rfl, rfl, rfl, by rw [cat_zero]; rfl⟩
  case round =>
    obtain ⟨k, m, hk, rfl, _, rfl, rfl, HM⟩ := hrel
    by_cases hlt : k < 3
    · have hltI : (k : Int) < 3 := by omega
      have hcell := HC.out wr (Below.refl _ _) k hlt
      have HM2 : Hid ((cat L (k + 1)).length = m + (L k).length) := by show _ = _; rw [cat_succ, List.length_append, HM.out]
      have HLK : Hid (m + (L k).length ≤ 1048576) := by show _ ≤ _; have := HLE.out (k + 1) (by omega); rw [HM2.out] at this; exact this
      obtain ⟨q, HQ⟩ : ∃ q, Hid ((L k).length = q) := ⟨_, Lib.hid rfl⟩
      rw [HQ.out] at hcell HM2 HLK
      have hsum : wrap64 ((m : Int) + (q : Int)) = (m : Int) + (q : Int) := by have := HLK.out; unfold wrap64; omega
      have hpos : ¬ ((m : Int) + (q : Int)) < 0 := by omega
      go_wp2
      go_roundw
      case rel => exact ⟨k + 1, m + q, by omega, by go_num, trivial, by go_num, trivial, HM2⟩
      case measure => simp [intOf]; omega
    · obtain rfl : k = 3 := by omega
      have GM := Lib.hid (GG.out m (by have := HLE.out 3 (Nat.le_refl _); rw [HM.out] at this; exact this) wr)
      go_wp2_with fail
      refine (GM.out).mono ?_
      rintro e w2 ⟨A, c, rfl, ho, hb2⟩
      have HO := Lib.hid ho
      have HB2 := Lib.hid hb2
      clear ho hb2
      obtain ⟨wq, hwq⟩ : ∃ x, x = wr := ⟨_, rfl⟩
      subst hwq
      go_wp2
      go_loopw [6, 8, 27] (fun s6 s8 s27 wr => ∃ (k : Nat) (A3 : Option Addr) (c3 : Nat), k ≤ 3 ∧ s6 = .slice A3 (cat L k).length c3 ∧ s8 = s8 ∧ s27 = .int .i64 (k : Int) ∧ Hid (Below wq.heap.size wq wr) ∧ Hid (OwnN wr wq.heap.size A3 c3 (cat L k))) (fun _ _ i _ => 3 - (intOf i).toNat)
      case atStart => exact ⟨0, A, c, Nat.zero_le _, by rw [cat_zero]; rfl, rfl, rfl, HB2, by rw [cat_zero]; exact HO⟩
      case round =>
        obtain ⟨k, A3, c3, hk, rfl, _, rfl, HB, HO3⟩ := hrel
        by_cases hlt : k < 3
        · have hltI : (k : Int) < 3 := by omega
          have hcell := HC.out wr HB.out k hlt
          have HNK := Lib.hid (HN.out wr HB.out k hlt)
          have HCS : Hid (cat L (k + 1) = cat L k ++ L k) := cat_succ L k
          have HLK : Hid ((cat L k).length + (L k).length ≤ 1048576) := by show _ ≤ _; have := HLE.out (k + 1) (by omega); rw [HCS.out, List.length_append] at this; exact this
          generalize cat L k = ck at HO3 HCS HLK
          go_wp2_with (at_builtin
                       refine wpList_nodes_app rfl (.tmp 31) (.tmp 32) rfl (B := wq.heap.size) (out := ck) HO3.out HB.out.size (CC k) HNK.out (by have := HLK.out; omega) rfl rfl ?_
                       intro A4 c4 w4 hown hbel
                       have HO4 := Lib.hid hown
                       have HB4 := Lib.hid (HB.out.trans hbel)
                       clear hown hbel)
          go_roundw
          case rel => exact ⟨k + 1, A4, c4, by omega, by rw [HCS.out, List.length_append], trivial, by go_num, HB4, by rw [HCS.out]; exact HO4⟩
          case measure => simp [intOf]; omega
        · obtain rfl : k = 3 := by omega
          go_wp2
          go_ret
          exact ⟨A3, c3, rfl, HO3.out, HB.out⟩

/-- What put makes of the nodes. -/
def spl (l : List NodeV) (i j : Nat) (s : List NodeV) : List NodeV := l.take i ++ s ++ l.drop j
def putS0 : Sched Nat := (.one 15 (.quiet 16 (.quiet 17 (.one 18 .done))))
def putS : Sched Nat := (.quiet 0 (.quiet 1 (.quiet 2 (.quiet 3 (.quiet 5 (.quiet 7 (.quiet 8 (.quiet 9 (.quiet 10 (.quiet 12 (.two 4 (.quiet 6 (.one 11 (.quiet 13 (.one 14 putS0)))) 11 (.quiet 13 (.one 4 (.quiet 6 (.one 14 putS0)))))))))))))))
set_option maxHeartbeats 2000000 in
set_option maxRecDepth 100000 in
theorem put_any (g : Nat) (l s : List NodeV) (A : Option Addr) (c : Nat) (i j : Nat) (hi : i ≤ l.length) (hj : j ≤ l.length) (hlen : l.length + s.length + l.length ≤ 1048576) (w : World) (h : TreeAt w g l) (hs : NodesAt w A s) :
    Calls Try.prog 44 #[.pointer (some ⟨g, 0, none⟩), .int .i64 (i : Int), .int .i64 (j : Int), .slice A s.length c] w fun e w' => e = .returned (.tuple #[]) ∧ TreeAt w' g (spl l i j s) ∧ Only g w w' := by
  have HT := Lib.hid h
  obtain ⟨At, ct, hr, hn⟩ := h
  have k0 := hr.drew.cell (i := 0) (by omega)
  have hct := hn.2
  have hcutH := fun w => ncut_high At l.length ct i (by omega) w
  have hcutL := fun w => ncut_low At l.length ct j hj w
  obtain ⟨L, HL⟩ : ∃ L : Nat → List NodeV, Hid (L 0 = l.take i ∧ L 1 = s ∧ L 2 = l.drop j) := ⟨fun k => if k = 0 then l.take i else if k = 1 then s else l.drop j, rfl, rfl, rfl⟩
  have HCAT : Hid (cat L 3 = spl l i j s) := by
    show _ = _
    rw [cat_succ, cat_succ, cat_succ, cat_zero, HL.out.1, HL.out.2.1, HL.out.2.2]
    rfl
  have HLEN : Hid ((cat L 3).length ≤ 1048576) := by
    show _ ≤ _
    rw [HCAT.out]
    unfold spl
    simp only [List.length_append, List.length_take, List.length_drop]
    omega
  have GB : Hid (∀ x : World, x = w.drew.alloc (.cells #[.slice (nHigh At ct) i ct, .slice A s.length c, .slice (nLow At j ct) (l.length - j) (ct - j)] 38) → Calls Try.prog 57 #[.slice (some ⟨w.heap.size, 0, none⟩) 3 3] x fun e w' => ∃ A c, e = .returned (.slice A (cat L 3).length c) ∧ OwnN w' x.heap.size A c (cat L 3) ∧ Below x.heap.size x w') := by
    rintro x rfl
    have hbw : Below w.heap.size w (w.drew.alloc (.cells #[.slice (nHigh At ct) i ct, .slice A s.length c, .slice (nLow At j ct) (l.length - j) (ct - j)] 38)) := (Below.refl _ _).drew.alloc (Nat.le_refl _) _
    refine concat_any w.heap.size L (fun k => if k = 0 then nHigh At ct else if k = 1 then A else nLow At j ct) (fun k => if k = 0 then ct else if k = 1 then c else ct - j) HLEN.out _ (by simp) (fun k hk => ?_) (fun k hk => ?_)
    · show (w.drew.alloc _).cell? ⟨w.drew.heap.size, k, none⟩ = _
      rw [cell_of_row _ _ _ _ _ _ (heap_alloc_new w.drew _)]
      match k, hk with
      | 0, _ => rw [HL.out.1, List.length_take, Nat.min_eq_left hi]; rfl
      | 1, _ => rw [HL.out.2.1]; rfl
      | 2, _ => rw [HL.out.2.2, List.length_drop]; rfl
    · match k, hk with
      | 0, _ => rw [HL.out.1]; exact (hn.1.high ct i).below hbw
      | 1, _ => rw [HL.out.2.1]; exact hs.below hbw
      | 2, _ => rw [HL.out.2.2]; exact (hn.1.low ct j hn.2).below hbw
  have HRW := Lib.hid hr
  obtain ⟨ty, HTY⟩ : ∃ ty, Hid (ty = cat L 3) := ⟨_, rfl⟩
  rw [← HTY.out] at GB
  clear hr hn hs
  go_enter Try.func44, Try.ntmps44
  go_wp2_with fail
  refine Sched.wp_region_branch (keepBlocks []) putS (by kernel_rfl) (by kernel_rfl) (fun _ _ d _ _ h => by cases d <;> exact h) ?_
  simp only [putS, putS0, Sched.picked, List.getElem?_cons_succ, List.getElem?_cons_zero, Option.getD_some]
  repeat (refine Sched.walkK_quiet (by rfl) (fun K hK => ?_); go_big_quiet_op; refine hK _ ?_; clear hK K)
  refine Sched.walkK_two ?_ ?_
  · refine Sched.walkK_one (by rfl) (fun K hK => ?_)
    go_simp
    refine hK _ _ ((keepBlocks []).refl _) ?_
    clear hK K
    repeat (refine Sched.walkK_quiet (by rfl) (fun K hK => ?_); go_big_quiet_op; refine hK _ ?_; clear hK K)
    refine Sched.walkK_one (by rfl) (fun K hK => ?_)
    go_simp
    refine hK _ _ ((keepBlocks []).refl _) ?_
    clear hK K
    repeat (refine Sched.walkK_quiet (by rfl) (fun K hK => ?_); go_big_quiet_op; refine hK _ ?_; clear hK K)
    refine Sched.walkK_one (by rfl) (fun K hK => ?_)
    go_simp
    refine hK _ _ ⟨by simp, fun k hk => by cases hk⟩ ?_
    clear hK K
    refine Sched.walkK_one (by rfl) (fun K hK => ?_)
    go_simp
    refine (GB.out _ rfl).mono ?_
    rintro e w4 ⟨A4, c4, rfl, ho, hb⟩
    have HO := Lib.hid ho
    have HB : Hid (Below w.heap.size w w4) := ((Below.refl _ _).drew.alloc (Nat.le_refl _) _).trans (hb.mono (by simp))
    refine hK _ _ ⟨hb.size, fun k hk => by cases hk⟩ ?_
    clear hK K ho hb
    have HT4 := Lib.hid (HT.out.below HB.out)
    have k4 := (HRW.out.of_block (HB.out.block g HRW.out.lt)).cell (i := 0) (by omega)
    have f4 := (HRW.out.of_block (HB.out.block g HRW.out.lt)).frozen 0
    repeat (refine Sched.walkK_quiet (by rfl) (fun K hK => ?_); go_big_quiet_op; refine hK _ ?_; clear hK K)
    refine Sched.walkK_one (by rfl) (fun K hK => ?_)
    go_simp
    refine hK _ _ ⟨by simp, fun k hk => by cases hk⟩ ?_
    clear hK K
    refine Sched.walkK_done ?_
    go_wp2
    go_end0
    refine ⟨rfl, ?_, (Only.of_below HB.out).set 0 _⟩
    rw [← HCAT.out, ← HTY.out]
    exact HT4.out.put HO.out.nodes
  · refine Sched.walkK_one (by rfl) (fun K hK => ?_)
    go_simp
    refine hK _ _ ((keepBlocks []).refl _) ?_
    clear hK K
    repeat (refine Sched.walkK_quiet (by rfl) (fun K hK => ?_); go_big_quiet_op; refine hK _ ?_; clear hK K)
    refine Sched.walkK_one (by rfl) (fun K hK => ?_)
    go_simp
    refine hK _ _ ((keepBlocks []).refl _) ?_
    clear hK K
    repeat (refine Sched.walkK_quiet (by rfl) (fun K hK => ?_); go_big_quiet_op; refine hK _ ?_; clear hK K)
    refine Sched.walkK_one (by rfl) (fun K hK => ?_)
    go_simp
    refine hK _ _ ⟨by simp, fun k hk => by cases hk⟩ ?_
    clear hK K
    refine Sched.walkK_one (by rfl) (fun K hK => ?_)
    go_simp
    refine (GB.out _ rfl).mono ?_
    rintro e w4 ⟨A4, c4, rfl, ho, hb⟩
    have HO := Lib.hid ho
    have HB : Hid (Below w.heap.size w w4) := ((Below.refl _ _).drew.alloc (Nat.le_refl _) _).trans (hb.mono (by simp))
    refine hK _ _ ⟨hb.size, fun k hk => by cases hk⟩ ?_
    clear hK K ho hb
    have HT4 := Lib.hid (HT.out.below HB.out)
    have k4 := (HRW.out.of_block (HB.out.block g HRW.out.lt)).cell (i := 0) (by omega)
    have f4 := (HRW.out.of_block (HB.out.block g HRW.out.lt)).frozen 0
    repeat (refine Sched.walkK_quiet (by rfl) (fun K hK => ?_); go_big_quiet_op; refine hK _ ?_; clear hK K)
    refine Sched.walkK_one (by rfl) (fun K hK => ?_)
    go_simp
    refine hK _ _ ⟨by simp, fun k hk => by cases hk⟩ ?_
    clear hK K
    refine Sched.walkK_done ?_
    go_wp2
    go_end0
    refine ⟨rfl, ?_, (Only.of_below HB.out).set 0 _⟩
    rw [← HCAT.out, ← HTY.out]
    exact HT4.out.put HO.out.nodes
end Go.Proofs.Ytmedaimndaaiiaa
