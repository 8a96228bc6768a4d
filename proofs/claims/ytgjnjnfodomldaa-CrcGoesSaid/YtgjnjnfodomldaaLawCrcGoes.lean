/- The walk of the law CrcGoes: whatever bytes and int it is called with, it answers true; what was there stays as it was. Condition: no slice is longer than memory. -/
import Derived.Test.YtgjnjnfodomldaaCrcAwake
import Derived.Test.YtgjnjnfodomldaaAlike
import Derived.Test.YtgjnjnfodomldaaTree
namespace Go.Proofs.Ytgjnjnfodomldaa
open Go.RowKit Go.Deep

theorem crcGoes_long (A : Option Addr) (n c : Nat) (k : Int) (B : Option Addr) (m d : Nat) (hh : 500 < n ∨ (n ≤ 500 ∧ 500 < m)) (w : World) :
    Calls Try.prog 5 #[.slice A n c, .int .i64 k, .slice B m d] w fun e w' => e = .returned (.bool true) ∧ Below w.heap.size w w' := by
  rcases hh with h | ⟨h, h2⟩
  all_goals
    go_enter Try.func5, Try.ntmps5
    go_wp2_with fail
    refine (crcAwake_any _).mono ?_
    rintro e w2 ⟨rfl, hb2⟩
    go_wp2
    go_ret
    exact ⟨rfl, hb2⟩

def goes0 : Sched Nat := (.one 11 (.quiet 12 (.quiet 13 (.quiet 14 (.quiet 15 (.quiet 16 (.quiet 19 (.quiet 20 (.quiet 21 (.quiet 23 (.quiet 25 (.one 17 (.one 18 (.one 22 (.one 24 (.quiet 26 (.quiet 27 (.quiet 28 (.quiet 29 (.quiet 31 (.one 30 (.quiet 32 (.quiet 33 (.quiet 34 (.quiet 35 (.quiet 37 (.quiet 39 (.one 36 (.one 38 (.one 40 (.one 41 (.quiet 42 (.quiet 43 (.one 44 (.quiet 45 (.quiet 46 .done))))))))))))))))))))))))))))))))))))
def goes1 : Sched Nat := (.one 8 goes0)
def goes2 : Sched Nat := (.one 4 goes1)
def goes : Sched Nat := (.quiet 0 (.quiet 1 (.quiet 2 (.quiet 5 (.quiet 6 (.quiet 7 (.quiet 9 (.two 3 (.two 4 (.two 8 (.one 10 goes0) 10 goes1) 10 goes2) 10 (.one 3 goes2)))))))))

set_option maxRecDepth 100000 in
set_option maxHeartbeats 2000000 in
theorem crcGoes_yes (A : Option Addr) (l : List Nat) (c : Nat) (at_ : Int) (B : Option Addr) (m : List Nat) (d : Nat) (hl : l.length ≤ 500) (hlb : ∀ x ∈ l, x < 256) (hlc : l.length ≤ c) (hm : m.length ≤ 500) (hmb : ∀ x ∈ m, x < 256) (w : World) (hA : BytesAt w A l) (hB : BytesAt w B m) :
    Calls Try.prog 5 #[.slice A l.length c, .int .i64 at_, .slice B m.length d] w fun e w' => e = .returned (.bool true) ∧ Below w.heap.size w w' := by
  obtain ⟨k, HK⟩ : ∃ k, Hid (rnd at_ (l.length + 1) = k) := ⟨_, rfl⟩
  have hk : k ≤ l.length := by have := rnd_lt at_ (show 0 < l.length + 1 by omega); have := HK.out; omega
  have HR := Lib.hid (fun w => alikeRound_any at_ (l.length + 1) (by omega) (by omega) w)
  rw [HK.out] at HR
  have HSH := slice_high A l.length c k (by omega)
  have HSL := slice_low A l.length c k hk
  obtain ⟨A1, HA1⟩ : ∃ A1, Hid (addrHigh A c = A1) := ⟨_, rfl⟩
  obtain ⟨A2, HA2⟩ : ∃ A2, Hid (addrLow A k c = A2) := ⟨_, rfl⟩
  obtain ⟨P1, HP1⟩ : ∃ P1, Hid (l.take k = P1) := ⟨_, rfl⟩
  obtain ⟨P2, HP2⟩ : ∃ P2, Hid (l.drop k = P2) := ⟨_, rfl⟩
  have HL1 : Hid (P1.length = k) := by show P1.length = k; rw [← HP1.out, List.length_take]; omega
  have HL2 : Hid (P2.length = l.length - k) := by show P2.length = l.length - k; rw [← HP2.out, List.length_drop]
  have HB1 : Hid (∀ x ∈ P1, x < 256) := by show ∀ x ∈ P1, x < 256; rw [← HP1.out]; exact fun x hx => hlb x (List.mem_of_mem_take hx)
  have HB2 : Hid (∀ x ∈ P2, x < 256) := by show ∀ x ∈ P2, x < 256; rw [← HP2.out]; exact fun x hx => hlb x (List.mem_of_mem_drop hx)
  have HAT1 : Hid (∀ w, BytesAt w A l → BytesAt w A1 P1) := by show ∀ w, BytesAt w A l → BytesAt w A1 P1; rw [← HP1.out, ← HA1.out]; exact fun w h => h.high c k
  have HAT2 : Hid (∀ w, BytesAt w A l → BytesAt w A2 P2) := by show ∀ w, BytesAt w A l → BytesAt w A2 P2; rw [← HP2.out, ← HA2.out]; exact fun w h => h.low c k hlc
  have HS : Hid (ms (sm P1) P2 = sm l) := by show ms (sm P1) P2 = sm l; rw [← sm_append _ _ HB1.out, ← HP1.out, ← HP2.out, List.take_append_drop]
  rw [HA1.out] at HSH
  rw [HA2.out] at HSL
  have HLB := Lib.hid hlb; clear hlb
  have HMB := Lib.hid hmb; clear hmb
  have HAA := Lib.hid hA; clear hA
  have HBB := Lib.hid hB; clear hB
  obtain ⟨y, HY⟩ : ∃ y, Hid (sm l = y) := ⟨_, rfl⟩
  obtain ⟨q, HQ⟩ : ∃ q, Hid (sm (l ++ m) = q) := ⟨_, rfl⟩
  obtain ⟨p, HP⟩ : ∃ p, Hid (sm P1 = p) := ⟨_, rfl⟩
  have HYQ : Hid (ms y m = q) := by show ms y m = q; rw [← HY.out, ← HQ.out, sm_append _ _ HLB.out]
  have HYL : Hid (y < 4294967296) := by show y < _; rw [← HY.out]; exact sm_lt _
  have HQL : Hid (q < 4294967296) := by show q < _; rw [← HQ.out]; exact sm_lt _
  have HPL : Hid (p < 4294967296) := by show p < _; rw [← HP.out]; exact sm_lt _
  have HQN : Hid (ms q [] = q) := ms_nil HQL.out
  have G0 := Lib.hid (fun w (h : BytesAt w A l) (h2 : BytesAt w B m) t g hg => crcSum_two c d 2 (by simp only [maxLen]; omega) HLB.out (by simp only [maxLen]; omega) HMB.out w h h2 t g hg)
  have G1 := Lib.hid (fun w g (h : RowsAt w (some ⟨g, 0, none⟩) [(A1, c, P1)]) => crcSum_row g 0 1 _ (by simp [maxLen]) (fine_one (by have := HL1.out; simp only [maxLen]; omega) HB1.out) w h)
  have G2 := Lib.hid (fun w (h : BytesAt w A l) => crcMore_at p HPL.out (c - k) (by have := HL2.out; simp only [maxLen]; omega) HB2.out w (HAT2.out w h))
  have G3 := Lib.hid (fun w g (h : RowsAt w (some ⟨g, 0, none⟩) [(A, c, l)]) => crcSum_row g 0 1 _ (by simp [maxLen]) (fine_one (by simp only [maxLen]; omega) HLB.out) w h)
  have G6 := Lib.hid (fun w A' c' (h : BytesAt w A' (l ++ m)) => crcSame_at q c' (by simp [maxLen]; omega) (fun x hx => (List.mem_append.1 hx).elim (HLB.out x) (HMB.out x)) w h)
  have GR := Lib.hid (fun w (h : BytesAt w A l) t => rows_one (c := c) (HAT1.out w h) t)
  have G4 := Lib.hid (fun w (h : BytesAt w B m) => crcMore_at y HYL.out d (by simp only [maxLen]; omega) HMB.out w h)
  have G5 := Lib.hid (fun w => crcMore_nil q HQL.out none 0 w)
  rw [HQ.out] at G0 G6
  rw [HL1.out] at GR
  rw [decide_eq_true (rfl : q = q), List.length_append] at G6
  rw [flat_one, HP.out] at G1
  rw [HP.out] at HS
  rw [HS.out, HY.out, HL2.out] at G2
  rw [flat_one, HY.out] at G3
  rw [HYQ.out] at G4
  rw [HQN.out] at G5
  go_enter Try.func5, Try.ntmps5
  go_wp2_with fail
  refine (HR.out _).mono ?_
  rintro e w1 ⟨rfl, rfl⟩
  go_wp2_with fail
  refine (G0.out _ HAA.out HBB.out _ _ ?_).mono ?_
  · simp
  rintro e w1 ⟨rfl, rfl⟩
  go_wp2_with fail
  refine Sched.wp_region_tree (some w.heap.size) goes (by kernel_rfl) (by kernel_rfl) (fun _ _ d _ _ h => by cases d <;> exact h) ?_
  have hbel0 : Below w.heap.size w (w.alloc (.cells #[.slice A l.length c, .slice B m.length d] 24)).drew := (balloc (Below.refl _ _) _).drew
  generalize (w.alloc (.cells #[.slice A l.length c, .slice B m.length d] 24)).drew = w1 at hbel0 ⊢
  have HBEL1 := Lib.hid hbel0; clear hbel0
  have HSZ1 := Lib.hid HBEL1.out.size
  simp only [goes, Sched.picked, List.getElem?_cons_succ, List.getElem?_cons_zero, Option.getD_some]
  repeat (first | (refine Sched.walk_quiet (by rfl) (fun K hK => ?_); go_big_quiet_op; refine hK _ ?_; clear hK K) | (refine Sched.walk_skip_quiet (by rfl) ?_; simp only [Act.put, List.setIfInBounds_toArray, List.set_cons_zero, List.set_cons_succ]))
  refine Sched.walk_two ?_ ?_
  · refine Sched.walk_one (by rfl) (fun K hK => ?_)
    go_simp
    refine hK _ _ (balloc' HSZ1.out _) ?_
    clear hK K
    have hr := GR.out w1 (HAA.out.below HBEL1.out) 24
    have hb := balloc HBEL1.out (.cells #[.slice A1 k c] 24)
    generalize w1.heap.size = g1 at hr ⊢
    generalize hw : w1.alloc (.cells #[.slice A1 k c] 24) = w2 at hr hb ⊢
    have HR1 := Lib.hid hr; have HBEL2 := Lib.hid hb; clear hr hb
    have HSZ2 := Lib.hid HBEL2.out.size
    have HUP2 : Hid (Below w1.heap.size w1 w2) := by show Below w1.heap.size w1 w2; rw [← hw]; exact (Below.refl _ _).alloc (Nat.le_refl _) _
    clear hw
    refine Sched.walk_two ?_ ?_
    · refine Sched.walk_one (by rfl) (fun K hK => ?_)
      go_simp
      refine (G1.out w2 g1 (HR1.out)).mono ?_
      rintro e w' ⟨rfl, rfl⟩
      refine hK _ _ (Below.refl _ _) ?_
      clear hK K
      refine Sched.walk_two ?_ ?_
      · refine Sched.walk_one (by rfl) (fun K hK => ?_)
        go_simp
        refine (G2.out w2 (HAA.out.below HBEL2.out)).mono ?_
        rintro e w' ⟨rfl, rfl⟩
        refine hK _ _ (Below.refl _ _) ?_
        clear hK K
        refine Sched.walk_one (by rfl) (fun K hK => ?_)
        go_simp
        refine hK _ _ (balloc' HSZ2.out _) ?_
        clear hK K
        have hr := rows_one (c := c) (HAA.out.below HBEL2.out) 24
        have hb := balloc HBEL2.out (.cells #[.slice A l.length c] 24)
        generalize w2.heap.size = g3 at hr ⊢
        generalize hw : w2.alloc (.cells #[.slice A l.length c] 24) = w3 at hr hb ⊢
        have HR3 := Lib.hid hr; have HBEL3 := Lib.hid hb; clear hr hb
        have HSZ3 := Lib.hid HBEL3.out.size
        have HUP3 : Hid (Below w2.heap.size w2 w3) := by show Below w2.heap.size w2 w3; rw [← hw]; exact (Below.refl _ _).alloc (Nat.le_refl _) _
        clear hw
        have HRZ := Lib.hid (HR3.out)
        rw [goes0]
        simp only [Sched.picked, List.getElem?_cons_succ, List.getElem?_cons_zero, Option.getD_some]
        refine Sched.walk_one (by rfl) (fun K hK => ?_)
        go_simp
        refine (G3.out w3 g3 HRZ.out).mono ?_
        rintro e w' ⟨rfl, rfl⟩
        refine hK _ _ (Below.refl _ _) ?_
        clear hK K
        repeat (first | (refine Sched.walk_quiet (by rfl) (fun K hK => ?_); go_big_quiet_op; refine hK _ ?_; clear hK K) | (refine Sched.walk_skip_quiet (by rfl) ?_; simp only [Act.put, List.setIfInBounds_toArray, List.set_cons_zero, List.set_cons_succ]))
        clear HRZ HR1 HR3
        refine Sched.walk_one (by rfl) (fun K hK => ?_)
        go_simp
        refine hK _ _ (balloc' HSZ3.out _) ?_
        clear hK K
        have hr := GR.out w3 (HAA.out.below HBEL3.out) 24
        have hb := balloc HBEL3.out (.cells #[.slice A1 k c] 24)
        generalize w3.heap.size = g4 at hr ⊢
        generalize hw : w3.alloc (.cells #[.slice A1 k c] 24) = w4 at hr hb ⊢
        have HR4 := Lib.hid hr; have HBEL4 := Lib.hid hb; clear hr hb
        have HSZ4 := Lib.hid HBEL4.out.size
        have HUP4 : Hid (Below w3.heap.size w3 w4) := by show Below w3.heap.size w3 w4; rw [← hw]; exact (Below.refl _ _).alloc (Nat.le_refl _) _
        clear hw
        refine Sched.walk_one (by rfl) (fun K hK => ?_)
        go_simp
        refine (G1.out w4 g4 HR4.out).mono ?_
        rintro e w' ⟨rfl, rfl⟩
        refine hK _ _ (Below.refl _ _) ?_
        clear hK K
        refine Sched.walk_one (by rfl) (fun K hK => ?_)
        go_simp
        refine (G2.out w4 (HAA.out.below HBEL4.out)).mono ?_
        rintro e w' ⟨rfl, rfl⟩
        refine hK _ _ (Below.refl _ _) ?_
        clear hK K
        refine Sched.walk_one (by rfl) (fun K hK => ?_)
        go_simp
        refine (G4.out w4 (HBB.out.below HBEL4.out)).mono ?_
        rintro e w' ⟨rfl, rfl⟩
        refine hK _ _ (Below.refl _ _) ?_
        clear hK K
        repeat (first | (refine Sched.walk_quiet (by rfl) (fun K hK => ?_); go_big_quiet_op; refine hK _ ?_; clear hK K) | (refine Sched.walk_skip_quiet (by rfl) ?_; simp only [Act.put, List.setIfInBounds_toArray, List.set_cons_zero, List.set_cons_succ]))
        refine Sched.walk_one (by rfl) (fun K hK => ?_)
        go_simp
        refine (G5.out w4).mono ?_
        rintro e w' ⟨rfl, rfl⟩
        refine hK _ _ (Below.refl _ _) ?_
        clear hK K
        repeat (first | (refine Sched.walk_quiet (by rfl) (fun K hK => ?_); go_big_quiet_op; refine hK _ ?_; clear hK K) | (refine Sched.walk_skip_quiet (by rfl) ?_; simp only [Act.put, List.setIfInBounds_toArray, List.set_cons_zero, List.set_cons_succ]))
        refine Sched.walk_one (by rfl) (fun K hK => ?_)
        go_simp
        refine hK _ _ (balloc' HSZ4.out _) ?_
        clear hK K
        have hown := World.ownsRow_lit (base := w.heap.size) (e := 5) (size := 1) w4 #[] 0 HSZ4.out (by simp [maxLen]) rfl
        have hb := balloc HBEL4.out (.cells #[] 5)
        generalize w4.alloc (.cells #[] 5) = w5 at hown hb ⊢
        have hge := HSZ4.out
        generalize w4.heap.size = g5 at hown hge ⊢
        have HO5 := Lib.hid hown; have HBEL5 := Lib.hid hb; have HGE := Lib.hid hge; clear hown hb hge
        refine Sched.walk_one (by rfl) (fun K hK => ?_)
        refine wp_append_bytes (.tmp 63) (.tmp 64) rfl w.heap.size (.slice (some ⟨g5, 0, none⟩) 0 0) 0 [] rfl HO5.out A l c rfl (HAA.out.below HBEL5.out) (by omega) HBEL5.out.size ?_
        intro v6 w6 hap6
        have hb6 := hap6.below (Below.refl _ _) HBEL5.out.size (fun k hk => by simp [Value.ownBlock] at hk; have := HGE.out; omega)
        have HO6 := Lib.hid hap6.1; have HB6 := Lib.hid hb6.1; have HV6 := Lib.hid hb6.2; clear hap6 hb6
        have HBEL6 := Lib.hid (HBEL5.out.trans HB6.out)
        simp only [Act.put, List.setIfInBounds_toArray, List.set_cons_zero, List.set_cons_succ] at hK ⊢
        refine hK _ _ HB6.out ?_
        clear hK K
        repeat (first | (refine Sched.walk_quiet (by rfl) (fun K hK => ?_); go_big_quiet_op; refine hK _ ?_; clear hK K) | (refine Sched.walk_skip_quiet (by rfl) ?_; simp only [Act.put, List.setIfInBounds_toArray, List.set_cons_zero, List.set_cons_succ]))
        refine Sched.walk_one (by rfl) (fun K hK => ?_)
        refine wp_append_bytes (.tmp 65) (.tmp 66) rfl w.heap.size v6 (0 + l.length) ([] ++ l) rfl HO6.out B m d rfl (HBB.out.below HBEL6.out) (by omega) HBEL6.out.size ?_
        intro v7 w7 hap7
        have hb7 := hap7.below (Below.refl _ _) HBEL6.out.size HV6.out
        have HO7 := Lib.hid hap7.1; have HB7 := Lib.hid hb7.1; clear hap7 hb7
        have HBEL7 := Lib.hid (HBEL6.out.trans HB7.out)
        simp only [Act.put, List.setIfInBounds_toArray, List.set_cons_zero, List.set_cons_succ] at hK ⊢
        refine hK _ _ HB7.out ?_
        clear hK K
        have ho7 := HO7.out
        rw [List.nil_append, show 0 + l.length + m.length = (l ++ m).length by simp] at ho7
        obtain ⟨A7, c7, rfl⟩ := own_slice ho7
        have HAT7 := Lib.hid (BytesAt.of_own ho7 rfl)
        clear ho7
        repeat (first | (refine Sched.walk_quiet (by rfl) (fun K hK => ?_); go_big_quiet_op; refine hK _ ?_; clear hK K) | (refine Sched.walk_skip_quiet (by rfl) ?_; simp only [Act.put, List.setIfInBounds_toArray, List.set_cons_zero, List.set_cons_succ]))
        refine Sched.walk_one (by rfl) (fun K hK => ?_)
        go_simp
        refine (G6.out w7 A7 c7 HAT7.out).mono ?_
        rintro e w' ⟨rfl, hb8⟩
        skip
        refine hK _ _ (hb8.mono HBEL7.out.size) ?_
        clear hK K
        have HBEL8 := Lib.hid (HBEL7.out.trans (hb8.mono HBEL7.out.size))
        clear hb8
        repeat (first | (refine Sched.walk_quiet (by rfl) (fun K hK => ?_); go_big_quiet_op; refine hK _ ?_; clear hK K) | (refine Sched.walk_skip_quiet (by rfl) ?_; simp only [Act.put, List.setIfInBounds_toArray, List.set_cons_zero, List.set_cons_succ]))
        refine Sched.walk_one (by rfl) (fun K hK => ?_)
        go_simp
        refine (crcAwake_any _).mono ?_
        rintro e w' ⟨rfl, hb9⟩
        skip
        refine hK _ _ (hb9.mono HBEL8.out.size) ?_
        clear hK K
        have HBEL9 := Lib.hid (HBEL8.out.trans (hb9.mono HBEL8.out.size))
        clear hb9
        repeat (first | (refine Sched.walk_quiet (by rfl) (fun K hK => ?_); go_big_quiet_op; refine hK _ ?_; clear hK K) | (refine Sched.walk_skip_quiet (by rfl) ?_; simp only [Act.put, List.setIfInBounds_toArray, List.set_cons_zero, List.set_cons_succ]))
        refine Sched.walk_done ?_
        go_wp2
        go_ret
        exact ⟨rfl, HBEL9.out⟩
      · refine Sched.walk_one (by rfl) (fun K hK => ?_)
        go_simp
        refine hK _ _ (balloc' HSZ2.out _) ?_
        clear hK K
        have hr := rows_one (c := c) (HAA.out.below HBEL2.out) 24
        have hb := balloc HBEL2.out (.cells #[.slice A l.length c] 24)
        generalize w2.heap.size = g3 at hr ⊢
        generalize hw : w2.alloc (.cells #[.slice A l.length c] 24) = w3 at hr hb ⊢
        have HR3 := Lib.hid hr; have HBEL3 := Lib.hid hb; clear hr hb
        have HSZ3 := Lib.hid HBEL3.out.size
        have HUP3 : Hid (Below w2.heap.size w2 w3) := by show Below w2.heap.size w2 w3; rw [← hw]; exact (Below.refl _ _).alloc (Nat.le_refl _) _
        clear hw
        rw [goes1]
        simp only [Sched.picked, List.getElem?_cons_succ, List.getElem?_cons_zero, Option.getD_some]
        refine Sched.walk_one (by rfl) (fun K hK => ?_)
        go_simp
        refine (G2.out w3 (HAA.out.below HBEL3.out)).mono ?_
        rintro e w' ⟨rfl, rfl⟩
        refine hK _ _ (Below.refl _ _) ?_
        clear hK K
        have HRZ := Lib.hid (HR3.out)
        rw [goes0]
        simp only [Sched.picked, List.getElem?_cons_succ, List.getElem?_cons_zero, Option.getD_some]
        refine Sched.walk_one (by rfl) (fun K hK => ?_)
        go_simp
        refine (G3.out w3 g3 HRZ.out).mono ?_
        rintro e w' ⟨rfl, rfl⟩
        refine hK _ _ (Below.refl _ _) ?_
        clear hK K
        repeat (first | (refine Sched.walk_quiet (by rfl) (fun K hK => ?_); go_big_quiet_op; refine hK _ ?_; clear hK K) | (refine Sched.walk_skip_quiet (by rfl) ?_; simp only [Act.put, List.setIfInBounds_toArray, List.set_cons_zero, List.set_cons_succ]))
        clear HRZ HR1 HR3
        refine Sched.walk_one (by rfl) (fun K hK => ?_)
        go_simp
        refine hK _ _ (balloc' HSZ3.out _) ?_
        clear hK K
        have hr := GR.out w3 (HAA.out.below HBEL3.out) 24
        have hb := balloc HBEL3.out (.cells #[.slice A1 k c] 24)
        generalize w3.heap.size = g4 at hr ⊢
        generalize hw : w3.alloc (.cells #[.slice A1 k c] 24) = w4 at hr hb ⊢
        have HR4 := Lib.hid hr; have HBEL4 := Lib.hid hb; clear hr hb
        have HSZ4 := Lib.hid HBEL4.out.size
        have HUP4 : Hid (Below w3.heap.size w3 w4) := by show Below w3.heap.size w3 w4; rw [← hw]; exact (Below.refl _ _).alloc (Nat.le_refl _) _
        clear hw
        refine Sched.walk_one (by rfl) (fun K hK => ?_)
        go_simp
        refine (G1.out w4 g4 HR4.out).mono ?_
        rintro e w' ⟨rfl, rfl⟩
        refine hK _ _ (Below.refl _ _) ?_
        clear hK K
        refine Sched.walk_one (by rfl) (fun K hK => ?_)
        go_simp
        refine (G2.out w4 (HAA.out.below HBEL4.out)).mono ?_
        rintro e w' ⟨rfl, rfl⟩
        refine hK _ _ (Below.refl _ _) ?_
        clear hK K
        refine Sched.walk_one (by rfl) (fun K hK => ?_)
        go_simp
        refine (G4.out w4 (HBB.out.below HBEL4.out)).mono ?_
        rintro e w' ⟨rfl, rfl⟩
        refine hK _ _ (Below.refl _ _) ?_
        clear hK K
        repeat (first | (refine Sched.walk_quiet (by rfl) (fun K hK => ?_); go_big_quiet_op; refine hK _ ?_; clear hK K) | (refine Sched.walk_skip_quiet (by rfl) ?_; simp only [Act.put, List.setIfInBounds_toArray, List.set_cons_zero, List.set_cons_succ]))
        refine Sched.walk_one (by rfl) (fun K hK => ?_)
        go_simp
        refine (G5.out w4).mono ?_
        rintro e w' ⟨rfl, rfl⟩
        refine hK _ _ (Below.refl _ _) ?_
        clear hK K
        repeat (first | (refine Sched.walk_quiet (by rfl) (fun K hK => ?_); go_big_quiet_op; refine hK _ ?_; clear hK K) | (refine Sched.walk_skip_quiet (by rfl) ?_; simp only [Act.put, List.setIfInBounds_toArray, List.set_cons_zero, List.set_cons_succ]))
        refine Sched.walk_one (by rfl) (fun K hK => ?_)
        go_simp
        refine hK _ _ (balloc' HSZ4.out _) ?_
        clear hK K
        have hown := World.ownsRow_lit (base := w.heap.size) (e := 5) (size := 1) w4 #[] 0 HSZ4.out (by simp [maxLen]) rfl
        have hb := balloc HBEL4.out (.cells #[] 5)
        generalize w4.alloc (.cells #[] 5) = w5 at hown hb ⊢
        have hge := HSZ4.out
        generalize w4.heap.size = g5 at hown hge ⊢
        have HO5 := Lib.hid hown; have HBEL5 := Lib.hid hb; have HGE := Lib.hid hge; clear hown hb hge
        refine Sched.walk_one (by rfl) (fun K hK => ?_)
        refine wp_append_bytes (.tmp 63) (.tmp 64) rfl w.heap.size (.slice (some ⟨g5, 0, none⟩) 0 0) 0 [] rfl HO5.out A l c rfl (HAA.out.below HBEL5.out) (by omega) HBEL5.out.size ?_
        intro v6 w6 hap6
        have hb6 := hap6.below (Below.refl _ _) HBEL5.out.size (fun k hk => by simp [Value.ownBlock] at hk; have := HGE.out; omega)
        have HO6 := Lib.hid hap6.1; have HB6 := Lib.hid hb6.1; have HV6 := Lib.hid hb6.2; clear hap6 hb6
        have HBEL6 := Lib.hid (HBEL5.out.trans HB6.out)
        simp only [Act.put, List.setIfInBounds_toArray, List.set_cons_zero, List.set_cons_succ] at hK ⊢
        refine hK _ _ HB6.out ?_
        clear hK K
        repeat (first | (refine Sched.walk_quiet (by rfl) (fun K hK => ?_); go_big_quiet_op; refine hK _ ?_; clear hK K) | (refine Sched.walk_skip_quiet (by rfl) ?_; simp only [Act.put, List.setIfInBounds_toArray, List.set_cons_zero, List.set_cons_succ]))
        refine Sched.walk_one (by rfl) (fun K hK => ?_)
        refine wp_append_bytes (.tmp 65) (.tmp 66) rfl w.heap.size v6 (0 + l.length) ([] ++ l) rfl HO6.out B m d rfl (HBB.out.below HBEL6.out) (by omega) HBEL6.out.size ?_
        intro v7 w7 hap7
        have hb7 := hap7.below (Below.refl _ _) HBEL6.out.size HV6.out
        have HO7 := Lib.hid hap7.1; have HB7 := Lib.hid hb7.1; clear hap7 hb7
        have HBEL7 := Lib.hid (HBEL6.out.trans HB7.out)
        simp only [Act.put, List.setIfInBounds_toArray, List.set_cons_zero, List.set_cons_succ] at hK ⊢
        refine hK _ _ HB7.out ?_
        clear hK K
        have ho7 := HO7.out
        rw [List.nil_append, show 0 + l.length + m.length = (l ++ m).length by simp] at ho7
        obtain ⟨A7, c7, rfl⟩ := own_slice ho7
        have HAT7 := Lib.hid (BytesAt.of_own ho7 rfl)
        clear ho7
        repeat (first | (refine Sched.walk_quiet (by rfl) (fun K hK => ?_); go_big_quiet_op; refine hK _ ?_; clear hK K) | (refine Sched.walk_skip_quiet (by rfl) ?_; simp only [Act.put, List.setIfInBounds_toArray, List.set_cons_zero, List.set_cons_succ]))
        refine Sched.walk_one (by rfl) (fun K hK => ?_)
        go_simp
        refine (G6.out w7 A7 c7 HAT7.out).mono ?_
        rintro e w' ⟨rfl, hb8⟩
        skip
        refine hK _ _ (hb8.mono HBEL7.out.size) ?_
        clear hK K
        have HBEL8 := Lib.hid (HBEL7.out.trans (hb8.mono HBEL7.out.size))
        clear hb8
        repeat (first | (refine Sched.walk_quiet (by rfl) (fun K hK => ?_); go_big_quiet_op; refine hK _ ?_; clear hK K) | (refine Sched.walk_skip_quiet (by rfl) ?_; simp only [Act.put, List.setIfInBounds_toArray, List.set_cons_zero, List.set_cons_succ]))
        refine Sched.walk_one (by rfl) (fun K hK => ?_)
        go_simp
        refine (crcAwake_any _).mono ?_
        rintro e w' ⟨rfl, hb9⟩
        skip
        refine hK _ _ (hb9.mono HBEL8.out.size) ?_
        clear hK K
        have HBEL9 := Lib.hid (HBEL8.out.trans (hb9.mono HBEL8.out.size))
        clear hb9
        repeat (first | (refine Sched.walk_quiet (by rfl) (fun K hK => ?_); go_big_quiet_op; refine hK _ ?_; clear hK K) | (refine Sched.walk_skip_quiet (by rfl) ?_; simp only [Act.put, List.setIfInBounds_toArray, List.set_cons_zero, List.set_cons_succ]))
        refine Sched.walk_done ?_
        go_wp2
        go_ret
        exact ⟨rfl, HBEL9.out⟩
    · refine Sched.walk_one (by rfl) (fun K hK => ?_)
      go_simp
      refine hK _ _ (balloc' HSZ2.out _) ?_
      clear hK K
      have hr := rows_one (c := c) (HAA.out.below HBEL2.out) 24
      have hb := balloc HBEL2.out (.cells #[.slice A l.length c] 24)
      generalize w2.heap.size = g3 at hr ⊢
      generalize hw : w2.alloc (.cells #[.slice A l.length c] 24) = w3 at hr hb ⊢
      have HR3 := Lib.hid hr; have HBEL3 := Lib.hid hb; clear hr hb
      have HSZ3 := Lib.hid HBEL3.out.size
      have HUP3 : Hid (Below w2.heap.size w2 w3) := by show Below w2.heap.size w2 w3; rw [← hw]; exact (Below.refl _ _).alloc (Nat.le_refl _) _
      clear hw
      rw [goes2]
      simp only [Sched.picked, List.getElem?_cons_succ, List.getElem?_cons_zero, Option.getD_some]
      refine Sched.walk_one (by rfl) (fun K hK => ?_)
      go_simp
      refine (G1.out w3 g1 (HR1.out.below HUP3.out)).mono ?_
      rintro e w' ⟨rfl, rfl⟩
      refine hK _ _ (Below.refl _ _) ?_
      clear hK K
      rw [goes1]
      simp only [Sched.picked, List.getElem?_cons_succ, List.getElem?_cons_zero, Option.getD_some]
      refine Sched.walk_one (by rfl) (fun K hK => ?_)
      go_simp
      refine (G2.out w3 (HAA.out.below HBEL3.out)).mono ?_
      rintro e w' ⟨rfl, rfl⟩
      refine hK _ _ (Below.refl _ _) ?_
      clear hK K
      have HRZ := Lib.hid (HR3.out)
      rw [goes0]
      simp only [Sched.picked, List.getElem?_cons_succ, List.getElem?_cons_zero, Option.getD_some]
      refine Sched.walk_one (by rfl) (fun K hK => ?_)
      go_simp
      refine (G3.out w3 g3 HRZ.out).mono ?_
      rintro e w' ⟨rfl, rfl⟩
      refine hK _ _ (Below.refl _ _) ?_
      clear hK K
      repeat (first | (refine Sched.walk_quiet (by rfl) (fun K hK => ?_); go_big_quiet_op; refine hK _ ?_; clear hK K) | (refine Sched.walk_skip_quiet (by rfl) ?_; simp only [Act.put, List.setIfInBounds_toArray, List.set_cons_zero, List.set_cons_succ]))
      clear HRZ HR1 HR3
      refine Sched.walk_one (by rfl) (fun K hK => ?_)
      go_simp
      refine hK _ _ (balloc' HSZ3.out _) ?_
      clear hK K
      have hr := GR.out w3 (HAA.out.below HBEL3.out) 24
      have hb := balloc HBEL3.out (.cells #[.slice A1 k c] 24)
      generalize w3.heap.size = g4 at hr ⊢
      generalize hw : w3.alloc (.cells #[.slice A1 k c] 24) = w4 at hr hb ⊢
      have HR4 := Lib.hid hr; have HBEL4 := Lib.hid hb; clear hr hb
      have HSZ4 := Lib.hid HBEL4.out.size
      have HUP4 : Hid (Below w3.heap.size w3 w4) := by show Below w3.heap.size w3 w4; rw [← hw]; exact (Below.refl _ _).alloc (Nat.le_refl _) _
      clear hw
      refine Sched.walk_one (by rfl) (fun K hK => ?_)
      go_simp
      refine (G1.out w4 g4 HR4.out).mono ?_
      rintro e w' ⟨rfl, rfl⟩
      refine hK _ _ (Below.refl _ _) ?_
      clear hK K
      refine Sched.walk_one (by rfl) (fun K hK => ?_)
      go_simp
      refine (G2.out w4 (HAA.out.below HBEL4.out)).mono ?_
      rintro e w' ⟨rfl, rfl⟩
      refine hK _ _ (Below.refl _ _) ?_
      clear hK K
      refine Sched.walk_one (by rfl) (fun K hK => ?_)
      go_simp
      refine (G4.out w4 (HBB.out.below HBEL4.out)).mono ?_
      rintro e w' ⟨rfl, rfl⟩
      refine hK _ _ (Below.refl _ _) ?_
      clear hK K
      repeat (first | (refine Sched.walk_quiet (by rfl) (fun K hK => ?_); go_big_quiet_op; refine hK _ ?_; clear hK K) | (refine Sched.walk_skip_quiet (by rfl) ?_; simp only [Act.put, List.setIfInBounds_toArray, List.set_cons_zero, List.set_cons_succ]))
      refine Sched.walk_one (by rfl) (fun K hK => ?_)
      go_simp
      refine (G5.out w4).mono ?_
      rintro e w' ⟨rfl, rfl⟩
      refine hK _ _ (Below.refl _ _) ?_
      clear hK K
      repeat (first | (refine Sched.walk_quiet (by rfl) (fun K hK => ?_); go_big_quiet_op; refine hK _ ?_; clear hK K) | (refine Sched.walk_skip_quiet (by rfl) ?_; simp only [Act.put, List.setIfInBounds_toArray, List.set_cons_zero, List.set_cons_succ]))
      refine Sched.walk_one (by rfl) (fun K hK => ?_)
      go_simp
      refine hK _ _ (balloc' HSZ4.out _) ?_
      clear hK K
      have hown := World.ownsRow_lit (base := w.heap.size) (e := 5) (size := 1) w4 #[] 0 HSZ4.out (by simp [maxLen]) rfl
      have hb := balloc HBEL4.out (.cells #[] 5)
      generalize w4.alloc (.cells #[] 5) = w5 at hown hb ⊢
      have hge := HSZ4.out
      generalize w4.heap.size = g5 at hown hge ⊢
      have HO5 := Lib.hid hown; have HBEL5 := Lib.hid hb; have HGE := Lib.hid hge; clear hown hb hge
      refine Sched.walk_one (by rfl) (fun K hK => ?_)
      refine wp_append_bytes (.tmp 63) (.tmp 64) rfl w.heap.size (.slice (some ⟨g5, 0, none⟩) 0 0) 0 [] rfl HO5.out A l c rfl (HAA.out.below HBEL5.out) (by omega) HBEL5.out.size ?_
      intro v6 w6 hap6
      have hb6 := hap6.below (Below.refl _ _) HBEL5.out.size (fun k hk => by simp [Value.ownBlock] at hk; have := HGE.out; omega)
      have HO6 := Lib.hid hap6.1; have HB6 := Lib.hid hb6.1; have HV6 := Lib.hid hb6.2; clear hap6 hb6
      have HBEL6 := Lib.hid (HBEL5.out.trans HB6.out)
      simp only [Act.put, List.setIfInBounds_toArray, List.set_cons_zero, List.set_cons_succ] at hK ⊢
      refine hK _ _ HB6.out ?_
      clear hK K
      repeat (first | (refine Sched.walk_quiet (by rfl) (fun K hK => ?_); go_big_quiet_op; refine hK _ ?_; clear hK K) | (refine Sched.walk_skip_quiet (by rfl) ?_; simp only [Act.put, List.setIfInBounds_toArray, List.set_cons_zero, List.set_cons_succ]))
      refine Sched.walk_one (by rfl) (fun K hK => ?_)
      refine wp_append_bytes (.tmp 65) (.tmp 66) rfl w.heap.size v6 (0 + l.length) ([] ++ l) rfl HO6.out B m d rfl (HBB.out.below HBEL6.out) (by omega) HBEL6.out.size ?_
      intro v7 w7 hap7
      have hb7 := hap7.below (Below.refl _ _) HBEL6.out.size HV6.out
      have HO7 := Lib.hid hap7.1; have HB7 := Lib.hid hb7.1; clear hap7 hb7
      have HBEL7 := Lib.hid (HBEL6.out.trans HB7.out)
      simp only [Act.put, List.setIfInBounds_toArray, List.set_cons_zero, List.set_cons_succ] at hK ⊢
      refine hK _ _ HB7.out ?_
      clear hK K
      have ho7 := HO7.out
      rw [List.nil_append, show 0 + l.length + m.length = (l ++ m).length by simp] at ho7
      obtain ⟨A7, c7, rfl⟩ := own_slice ho7
      have HAT7 := Lib.hid (BytesAt.of_own ho7 rfl)
      clear ho7
      repeat (first | (refine Sched.walk_quiet (by rfl) (fun K hK => ?_); go_big_quiet_op; refine hK _ ?_; clear hK K) | (refine Sched.walk_skip_quiet (by rfl) ?_; simp only [Act.put, List.setIfInBounds_toArray, List.set_cons_zero, List.set_cons_succ]))
      refine Sched.walk_one (by rfl) (fun K hK => ?_)
      go_simp
      refine (G6.out w7 A7 c7 HAT7.out).mono ?_
      rintro e w' ⟨rfl, hb8⟩
      skip
      refine hK _ _ (hb8.mono HBEL7.out.size) ?_
      clear hK K
      have HBEL8 := Lib.hid (HBEL7.out.trans (hb8.mono HBEL7.out.size))
      clear hb8
      repeat (first | (refine Sched.walk_quiet (by rfl) (fun K hK => ?_); go_big_quiet_op; refine hK _ ?_; clear hK K) | (refine Sched.walk_skip_quiet (by rfl) ?_; simp only [Act.put, List.setIfInBounds_toArray, List.set_cons_zero, List.set_cons_succ]))
      refine Sched.walk_one (by rfl) (fun K hK => ?_)
      go_simp
      refine (crcAwake_any _).mono ?_
      rintro e w' ⟨rfl, hb9⟩
      skip
      refine hK _ _ (hb9.mono HBEL8.out.size) ?_
      clear hK K
      have HBEL9 := Lib.hid (HBEL8.out.trans (hb9.mono HBEL8.out.size))
      clear hb9
      repeat (first | (refine Sched.walk_quiet (by rfl) (fun K hK => ?_); go_big_quiet_op; refine hK _ ?_; clear hK K) | (refine Sched.walk_skip_quiet (by rfl) ?_; simp only [Act.put, List.setIfInBounds_toArray, List.set_cons_zero, List.set_cons_succ]))
      refine Sched.walk_done ?_
      go_wp2
      go_ret
      exact ⟨rfl, HBEL9.out⟩
  · refine Sched.walk_one (by rfl) (fun K hK => ?_)
    go_simp
    refine hK _ _ (balloc' HSZ1.out _) ?_
    clear hK K
    have hr := rows_one (c := c) (HAA.out.below HBEL1.out) 24
    have hb := balloc HBEL1.out (.cells #[.slice A l.length c] 24)
    generalize w1.heap.size = g3 at hr ⊢
    generalize hw : w1.alloc (.cells #[.slice A l.length c] 24) = w2 at hr hb ⊢
    have HR3 := Lib.hid hr; have HBEL2 := Lib.hid hb; clear hr hb
    have HSZ2 := Lib.hid HBEL2.out.size
    have HUP2 : Hid (Below w1.heap.size w1 w2) := by show Below w1.heap.size w1 w2; rw [← hw]; exact (Below.refl _ _).alloc (Nat.le_refl _) _
    clear hw
    refine Sched.walk_one (by rfl) (fun K hK => ?_)
    go_simp
    refine hK _ _ (balloc' HSZ2.out _) ?_
    clear hK K
    have hr := GR.out w2 (HAA.out.below HBEL2.out) 24
    have hb := balloc HBEL2.out (.cells #[.slice A1 k c] 24)
    generalize w2.heap.size = g1 at hr ⊢
    generalize hw : w2.alloc (.cells #[.slice A1 k c] 24) = w3 at hr hb ⊢
    have HR1 := Lib.hid hr; have HBEL3 := Lib.hid hb; clear hr hb
    have HSZ3 := Lib.hid HBEL3.out.size
    have HUP3 : Hid (Below w2.heap.size w2 w3) := by show Below w2.heap.size w2 w3; rw [← hw]; exact (Below.refl _ _).alloc (Nat.le_refl _) _
    clear hw
    rw [goes2]
    simp only [Sched.picked, List.getElem?_cons_succ, List.getElem?_cons_zero, Option.getD_some]
    refine Sched.walk_one (by rfl) (fun K hK => ?_)
    go_simp
    refine (G1.out w3 g1 (HR1.out)).mono ?_
    rintro e w' ⟨rfl, rfl⟩
    refine hK _ _ (Below.refl _ _) ?_
    clear hK K
    rw [goes1]
    simp only [Sched.picked, List.getElem?_cons_succ, List.getElem?_cons_zero, Option.getD_some]
    refine Sched.walk_one (by rfl) (fun K hK => ?_)
    go_simp
    refine (G2.out w3 (HAA.out.below HBEL3.out)).mono ?_
    rintro e w' ⟨rfl, rfl⟩
    refine hK _ _ (Below.refl _ _) ?_
    clear hK K
    have HRZ := Lib.hid (HR3.out.below HUP3.out)
    rw [goes0]
    simp only [Sched.picked, List.getElem?_cons_succ, List.getElem?_cons_zero, Option.getD_some]
    refine Sched.walk_one (by rfl) (fun K hK => ?_)
    go_simp
    refine (G3.out w3 g3 HRZ.out).mono ?_
    rintro e w' ⟨rfl, rfl⟩
    refine hK _ _ (Below.refl _ _) ?_
    clear hK K
    repeat (first | (refine Sched.walk_quiet (by rfl) (fun K hK => ?_); go_big_quiet_op; refine hK _ ?_; clear hK K) | (refine Sched.walk_skip_quiet (by rfl) ?_; simp only [Act.put, List.setIfInBounds_toArray, List.set_cons_zero, List.set_cons_succ]))
    clear HRZ HR1 HR3
    refine Sched.walk_one (by rfl) (fun K hK => ?_)
    go_simp
    refine hK _ _ (balloc' HSZ3.out _) ?_
    clear hK K
    have hr := GR.out w3 (HAA.out.below HBEL3.out) 24
    have hb := balloc HBEL3.out (.cells #[.slice A1 k c] 24)
    generalize w3.heap.size = g4 at hr ⊢
    generalize hw : w3.alloc (.cells #[.slice A1 k c] 24) = w4 at hr hb ⊢
    have HR4 := Lib.hid hr; have HBEL4 := Lib.hid hb; clear hr hb
    have HSZ4 := Lib.hid HBEL4.out.size
    have HUP4 : Hid (Below w3.heap.size w3 w4) := by show Below w3.heap.size w3 w4; rw [← hw]; exact (Below.refl _ _).alloc (Nat.le_refl _) _
    clear hw
    refine Sched.walk_one (by rfl) (fun K hK => ?_)
    go_simp
    refine (G1.out w4 g4 HR4.out).mono ?_
    rintro e w' ⟨rfl, rfl⟩
    refine hK _ _ (Below.refl _ _) ?_
    clear hK K
    refine Sched.walk_one (by rfl) (fun K hK => ?_)
    go_simp
    refine (G2.out w4 (HAA.out.below HBEL4.out)).mono ?_
    rintro e w' ⟨rfl, rfl⟩
    refine hK _ _ (Below.refl _ _) ?_
    clear hK K
    refine Sched.walk_one (by rfl) (fun K hK => ?_)
    go_simp
    refine (G4.out w4 (HBB.out.below HBEL4.out)).mono ?_
    rintro e w' ⟨rfl, rfl⟩
    refine hK _ _ (Below.refl _ _) ?_
    clear hK K
    repeat (first | (refine Sched.walk_quiet (by rfl) (fun K hK => ?_); go_big_quiet_op; refine hK _ ?_; clear hK K) | (refine Sched.walk_skip_quiet (by rfl) ?_; simp only [Act.put, List.setIfInBounds_toArray, List.set_cons_zero, List.set_cons_succ]))
    refine Sched.walk_one (by rfl) (fun K hK => ?_)
    go_simp
    refine (G5.out w4).mono ?_
    rintro e w' ⟨rfl, rfl⟩
    refine hK _ _ (Below.refl _ _) ?_
    clear hK K
    repeat (first | (refine Sched.walk_quiet (by rfl) (fun K hK => ?_); go_big_quiet_op; refine hK _ ?_; clear hK K) | (refine Sched.walk_skip_quiet (by rfl) ?_; simp only [Act.put, List.setIfInBounds_toArray, List.set_cons_zero, List.set_cons_succ]))
    refine Sched.walk_one (by rfl) (fun K hK => ?_)
    go_simp
    refine hK _ _ (balloc' HSZ4.out _) ?_
    clear hK K
    have hown := World.ownsRow_lit (base := w.heap.size) (e := 5) (size := 1) w4 #[] 0 HSZ4.out (by simp [maxLen]) rfl
    have hb := balloc HBEL4.out (.cells #[] 5)
    generalize w4.alloc (.cells #[] 5) = w5 at hown hb ⊢
    have hge := HSZ4.out
    generalize w4.heap.size = g5 at hown hge ⊢
    have HO5 := Lib.hid hown; have HBEL5 := Lib.hid hb; have HGE := Lib.hid hge; clear hown hb hge
    refine Sched.walk_one (by rfl) (fun K hK => ?_)
    refine wp_append_bytes (.tmp 63) (.tmp 64) rfl w.heap.size (.slice (some ⟨g5, 0, none⟩) 0 0) 0 [] rfl HO5.out A l c rfl (HAA.out.below HBEL5.out) (by omega) HBEL5.out.size ?_
    intro v6 w6 hap6
    have hb6 := hap6.below (Below.refl _ _) HBEL5.out.size (fun k hk => by simp [Value.ownBlock] at hk; have := HGE.out; omega)
    have HO6 := Lib.hid hap6.1; have HB6 := Lib.hid hb6.1; have HV6 := Lib.hid hb6.2; clear hap6 hb6
    have HBEL6 := Lib.hid (HBEL5.out.trans HB6.out)
    simp only [Act.put, List.setIfInBounds_toArray, List.set_cons_zero, List.set_cons_succ] at hK ⊢
    refine hK _ _ HB6.out ?_
    clear hK K
    repeat (first | (refine Sched.walk_quiet (by rfl) (fun K hK => ?_); go_big_quiet_op; refine hK _ ?_; clear hK K) | (refine Sched.walk_skip_quiet (by rfl) ?_; simp only [Act.put, List.setIfInBounds_toArray, List.set_cons_zero, List.set_cons_succ]))
    refine Sched.walk_one (by rfl) (fun K hK => ?_)
    refine wp_append_bytes (.tmp 65) (.tmp 66) rfl w.heap.size v6 (0 + l.length) ([] ++ l) rfl HO6.out B m d rfl (HBB.out.below HBEL6.out) (by omega) HBEL6.out.size ?_
    intro v7 w7 hap7
    have hb7 := hap7.below (Below.refl _ _) HBEL6.out.size HV6.out
    have HO7 := Lib.hid hap7.1; have HB7 := Lib.hid hb7.1; clear hap7 hb7
    have HBEL7 := Lib.hid (HBEL6.out.trans HB7.out)
    simp only [Act.put, List.setIfInBounds_toArray, List.set_cons_zero, List.set_cons_succ] at hK ⊢
    refine hK _ _ HB7.out ?_
    clear hK K
    have ho7 := HO7.out
    rw [List.nil_append, show 0 + l.length + m.length = (l ++ m).length by simp] at ho7
    obtain ⟨A7, c7, rfl⟩ := own_slice ho7
    have HAT7 := Lib.hid (BytesAt.of_own ho7 rfl)
    clear ho7
    repeat (first | (refine Sched.walk_quiet (by rfl) (fun K hK => ?_); go_big_quiet_op; refine hK _ ?_; clear hK K) | (refine Sched.walk_skip_quiet (by rfl) ?_; simp only [Act.put, List.setIfInBounds_toArray, List.set_cons_zero, List.set_cons_succ]))
    refine Sched.walk_one (by rfl) (fun K hK => ?_)
    go_simp
    refine (G6.out w7 A7 c7 HAT7.out).mono ?_
    rintro e w' ⟨rfl, hb8⟩
    skip
    refine hK _ _ (hb8.mono HBEL7.out.size) ?_
    clear hK K
    have HBEL8 := Lib.hid (HBEL7.out.trans (hb8.mono HBEL7.out.size))
    clear hb8
    repeat (first | (refine Sched.walk_quiet (by rfl) (fun K hK => ?_); go_big_quiet_op; refine hK _ ?_; clear hK K) | (refine Sched.walk_skip_quiet (by rfl) ?_; simp only [Act.put, List.setIfInBounds_toArray, List.set_cons_zero, List.set_cons_succ]))
    refine Sched.walk_one (by rfl) (fun K hK => ?_)
    go_simp
    refine (crcAwake_any _).mono ?_
    rintro e w' ⟨rfl, hb9⟩
    skip
    refine hK _ _ (hb9.mono HBEL8.out.size) ?_
    clear hK K
    have HBEL9 := Lib.hid (HBEL8.out.trans (hb9.mono HBEL8.out.size))
    clear hb9
    repeat (first | (refine Sched.walk_quiet (by rfl) (fun K hK => ?_); go_big_quiet_op; refine hK _ ?_; clear hK K) | (refine Sched.walk_skip_quiet (by rfl) ?_; simp only [Act.put, List.setIfInBounds_toArray, List.set_cons_zero, List.set_cons_succ]))
    refine Sched.walk_done ?_
    go_wp2
    go_ret
    exact ⟨rfl, HBEL9.out⟩
end Go.Proofs.Ytgjnjnfodomldaa
