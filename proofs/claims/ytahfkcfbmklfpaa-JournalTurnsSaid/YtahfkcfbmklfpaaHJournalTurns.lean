/- JournalTurns holds: what was begun and appended, turn over turn, is what the journal shows, whatever numbers and lengths the law is called with: it answers true and changes nothing. No condition. (Merged of 2 texts.) -/
import Derived.Test.YtahfkcfbmklfpaaHJAwake
import Derived.ChangeMaps5
/- The law JournalTurns: however often a journal is begun anew, its base is the last one, and so are the records behind it; behind crashes too. No condition beyond the arguments' own bounds. -/
namespace Go.Proofs.Ytahfkcfbmklfpaa
open Go.RowKit Go.Deep

theorem first_le (t : Nat) (b : List Nat) : (⟨t, b, []⟩ : RollV).first.length ≤ b.length + 16 := by
  rw [first_length]
  have h1 := nsz_le t
  have h2 := (flen_bounds (nsz t + b.length)).2
  show flen (nsz t + b.length) ≤ _
  omega
theorem begun_bytes (t : Nat) (b : List Nat) : (⟨t, b, []⟩ : RollV).bytes.length = (⟨t, b, []⟩ : RollV).first.length := by simp [RollV.bytes]
/-- What stands on the disk ahead of a turn. -/
def TurnIs (t n : Nat) (x : Option RollV) : Prop := (t = 0 ∧ x = none) ∨ ∃ r, x = some r ∧ 0 < t ∧ r.base = dataL (10 * ((t : Int) - 1)) ((t : Int) - 1) ∧ r.recs.length = n

/-- All that is there stays. -/
def keepAll : Keep where
  r w x := Below w.heap.size w x
  refl _ := Below.refl _ _
  trans h1 h2 := h1.trans (h2.mono h1.size)
def jtS0 : Sched Nat := .quiet 13 (.quiet 14 (.quiet 15 (.quiet 16 (.quiet 19 (.one 17 (.quiet 18 (.quiet 20 (.quiet 21 (.quiet 22 .done)))))))))
def jtS : Sched Nat := .quiet 0 (.quiet 1 (.quiet 2 (.quiet 3 (.quiet 6 (.quiet 7 (.quiet 8 (.quiet 9 (.quiet 10 (.two 4 (.quiet 5 (.one 11 (.one 12 jtS0))) 11 (.one 4 (.quiet 5 (.one 12 jtS0))))))))))))

set_option maxHeartbeats 8000000 in
set_option maxRecDepth 100000 in
theorem journalTurns_any (turns m : Int) (A : Option Addr) (l : List Int) (c : Nat) (hc : l.length ≤ maxLen) (w : World) (hat : IntsAt w A l) :
    Calls Try.prog 5 #[.int .i64 turns, .int .i64 m, .slice A l.length c] w fun e w' => e = .returned (.bool true) ∧ Below w.heap.size w w' := by
  have GA := Lib.hid awake_any
  have HSA := Lib.hid hat
  clear hat
  simp only [maxLen] at hc
  by_cases hbad : turns < 0 ∨ (¬turns < 0 ∧ 12 < turns) ∨ (¬turns < 0 ∧ ¬12 < turns ∧ m < 0) ∨ (¬turns < 0 ∧ ¬12 < turns ∧ ¬m < 0 ∧ 6 < m) ∨ (¬turns < 0 ∧ ¬12 < turns ∧ ¬m < 0 ∧ ¬6 < m ∧ 5 < l.length)
  · rcases hbad with h1 | ⟨h1, h2⟩ | ⟨h1, h2, h3⟩ | ⟨h1, h2, h3, h4⟩ | ⟨h1, h2, h3, h4, h5⟩
    all_goals
      go_enter Try.func5, Try.ntmps5
      go_wp2_with fail
      refine (GA.out w).mono ?_
      rintro e w3 ⟨rfl, hb3⟩
      have HB3 := Lib.hid hb3; clear hb3
      go_wp2
      go_ret
      exact ⟨rfl, HB3.out⟩
  obtain ⟨T, rfl⟩ : ∃ T : Nat, turns = (T : Int) := ⟨turns.toNat, by omega⟩
  obtain ⟨n, rfl⟩ : ∃ n : Nat, m = (n : Int) := ⟨m.toNat, by omega⟩
  have hT : T ≤ 12 := by omega
  have hn : n ≤ 6 := by omega
  have hl : l.length ≤ 5 := by omega
  clear hbad hc
  have GN := Lib.hid (jnew1_any (n := 200) (by omega) (by omega))
  have GDA := Lib.hid (fun a b c w => data_any a b c w)
  have HDL := Lib.hid (fun a b => dataL_length a b)
  have HDB := Lib.hid (fun a b => dataL_lt a b)
  go_enter Try.func5, Try.ntmps5
  go_wp2_with fail
  refine (GN.out w).mono ?_
  rintro e w1 ⟨g0, J0, rfl, hd0, hJ0, hb1⟩
  obtain ⟨J1, hd1, hJ1, _⟩ := hd0.tidy hJ0
  have HD1 := Lib.hid hd1; have HJ1 := Lib.hid hJ1; have HB1 := Lib.hid hb1
  clear hd0 hJ0 hb1 hd1 hJ1
  go_wp2_with fail
  go_loopw [7, 9, 10, 11, 12] (fun vd vt _ _ _ wr => ∃ (t g k : Nat) (J : Nat → Prop) (x : Option RollV), t ≤ T + 1 ∧ k ≤ 2000000 * t ∧ vt = .int .i64 (t : Int) ∧ vd = .pointer (some ⟨g, 0, none⟩) ∧ Hid (Disk1 J g 200 k x wr ∧ (∀ y, J y → w.heap.size ≤ y ∧ y < wr.heap.size) ∧ TurnIs t n x ∧ Below w.heap.size w wr)) (fun _ vt _ _ _ _ => T + 1 - (intOf vt).toNat)
  case atStart => exact ⟨0, g0, 0, J1, none, by omega, by omega, rfl, rfl, HD1.out, HJ1.out, .inl ⟨rfl, rfl⟩, HB1.out⟩
  case round =>
    obtain ⟨t, g, k, J, x, ht, hk, rfl, rfl, HR⟩ := hrel
    by_cases hlt : t ≤ T
    · go_wp2_with fail
      refine (jopen_any HR.out.1 (by omega)).mono ?_
      rintro e w2 ⟨gj, J2', rfl, hJ2', hjo', hoff⟩
      obtain ⟨J2, hjo, hap, _, hb2⟩ := hjo'.tidy hJ2' hoff HR.out.2.1 HR.out.2.2.2.size
      have HJO2 := Lib.hid hjo; have HAP2 := Lib.hid hap
      have HB2 : Hid (Below w.heap.size w w2) := HR.out.2.2.2.trans hb2
      clear hjo' hJ2' hoff hjo hap hb2
      go_upto_region 12 with fail
      go_cut [81] (fun s81 wc => s81 = .bool false ∧ Below w2.heap.size w2 wc)
      case first =>
        rcases HR.out.2.2.1 with ⟨h0, hx⟩ | ⟨r, hx, h0, hrb, hrn⟩
        · subst h0
          refine Sched.wp_region_branch keepAll jtS (by kernel_rfl) (by kernel_rfl) (fun _ _ d _ _ h => by cases d <;> exact h) ?_
          simp only [jtS, jtS0, Sched.picked, List.getElem?_cons_succ, List.getElem?_cons_zero, Option.getD_some]
          iterate 3 (refine Sched.walkK_quiet (by kernel_rfl) (fun K hK => ?_); go_big_quiet_op; refine hK _ ?_; clear hK K)
          iterate 6 (refine Sched.walkK_skip_quiet (by kernel_rfl) ?_)
          refine Sched.walkK_two ?_ ?_
          · refine Sched.walkK_skip_one (by kernel_rfl) ?_
            refine Sched.walkK_skip_quiet (by kernel_rfl) ?_
            refine Sched.walkK_skip_one (by kernel_rfl) ?_
            refine Sched.walkK_skip_one (by kernel_rfl) ?_
            iterate 5 (refine Sched.walkK_skip_quiet (by kernel_rfl) ?_)
            refine Sched.walkK_skip_one (by kernel_rfl) ?_
            iterate 3 (refine Sched.walkK_skip_quiet (by kernel_rfl) ?_)
            simp only [Act.put, List.setIfInBounds_toArray, List.set_cons_zero, List.set_cons_succ]
            iterate 1 (refine Sched.walkK_quiet (by kernel_rfl) (fun K hK => ?_); go_big_quiet_op; refine hK _ ?_; clear hK K)
            refine Sched.walkK_done ?_
            go_wp2_with fail
            go_meet
            exact ⟨rfl, (Below.refl _ _).drew⟩
          · refine Sched.walkK_skip_one (by kernel_rfl) ?_
            refine Sched.walkK_skip_one (by kernel_rfl) ?_
            refine Sched.walkK_skip_quiet (by kernel_rfl) ?_
            refine Sched.walkK_skip_one (by kernel_rfl) ?_
            iterate 5 (refine Sched.walkK_skip_quiet (by kernel_rfl) ?_)
            refine Sched.walkK_skip_one (by kernel_rfl) ?_
            iterate 3 (refine Sched.walkK_skip_quiet (by kernel_rfl) ?_)
            simp only [Act.put, List.setIfInBounds_toArray, List.set_cons_zero, List.set_cons_succ]
            iterate 1 (refine Sched.walkK_quiet (by kernel_rfl) (fun K hK => ?_); go_big_quiet_op; refine hK _ ?_; clear hK K)
            refine Sched.walkK_done ?_
            go_wp2_with fail
            go_meet
            exact ⟨rfl, (Below.refl _ _).drew⟩
        · obtain ⟨D, HD⟩ : ∃ D, Hid (dataL (10 * ((t : Int) - 1)) ((t : Int) - 1) = D) := ⟨_, Lib.hid rfl⟩
          have GB := Lib.hid (jbase_any (HJO2.out.below (Below.refl w2.heap.size w2).drew))
          have GD := Lib.hid (fun w => GDA.out 0 (10 * ((t : Int) - 1)) ((t : Int) - 1) w)
          have GRC := Lib.hid (fun w' (hb : Below w2.heap.size w2 w') => jrecords_any (HJO2.out.below hb))
          rw [HD.out] at GD hrb
          subst hx
          rw [show (some r).getD ⟨1, [], []⟩ = r from rfl, hrb] at GB
          rw [show (some r).getD ⟨1, [], []⟩ = r from rfl, hrn] at GRC
          have hd : decide (0 < t) = true := decide_eq_true (by omega)
          have hd' : decide (0 < (t : Int)) = true := decide_eq_true (by omega)
          refine Sched.wp_region_branch keepAll jtS (by kernel_rfl) (by kernel_rfl) (fun _ _ d _ _ h => by cases d <;> exact h) ?_
          simp only [jtS, jtS0, Sched.picked, List.getElem?_cons_succ, List.getElem?_cons_zero, Option.getD_some]
          iterate 9 (refine Sched.walkK_quiet (by kernel_rfl) (fun K hK => ?_); go_big_quiet_op; refine hK _ ?_; clear hK K)
          refine Sched.walkK_two ?_ ?_
          · refine Sched.walkK_one (by kernel_rfl) (fun K hK => ?_)
            go_simp
            refine GB.out.mono ?_
            rintro e w3 ⟨⟨v3, rfl, ho3⟩, hb3⟩
            refine hK _ _ hb3 ?_
            clear hK K
            obtain ⟨cA, cc, rfl⟩ := own_slice ho3
            have hcat := BytesAt.of_own ho3 rfl
            have vb : ∀ e : ExtK keepAll w3, (convert 31 9 (.slice cA D.length cc)).run Try.prog e.val = .ok (.string (bstr D)) e.val := fun e => (hcat.below e.property).conv cc 9 Try.underlying9
            have HB3 : Hid (Below w2.heap.size w2 w3) := (Below.refl w2.heap.size w2).drew.trans hb3
            clear ho3 hb3
            iterate 1 (refine Sched.walkK_quiet (by kernel_rfl) (fun K hK => ?_); go_big_quiet_op; refine hK _ ?_; clear hK K)
            clear vb hcat
            refine Sched.walkK_one (by kernel_rfl) (fun K hK => ?_)
            go_simp
            refine hK _ _ (keepAll.refl _) ?_
            clear hK K
            refine Sched.walkK_one (by kernel_rfl) (fun K hK => ?_)
            go_simp
            refine (GD.out w3).mono ?_
            rintro e w4 ⟨⟨da, dc, rfl, hdat, _⟩, hb4⟩
            refine hK _ _ hb4 ?_
            clear hK K
            have vd : ∀ e : ExtK keepAll w4, (convert 31 9 (.slice (some ⟨da, 0, none⟩) D.length dc)).run Try.prog e.val = .ok (.string (bstr D)) e.val := fun e => (hdat.below e.property).conv dc 9 Try.underlying9
            have HB4 : Hid (Below w2.heap.size w2 w4) := HB3.out.trans (hb4.mono HB3.out.size)
            clear hb4
            iterate 5 (refine Sched.walkK_quiet (by kernel_rfl) (fun K hK => ?_); go_big_quiet_op; refine hK _ ?_; clear hK K)
            clear vd hdat
            refine Sched.walkK_one (by kernel_rfl) (fun K hK => ?_)
            go_simp
            refine (GRC.out w4 HB4.out).mono ?_
            rintro e w5 ⟨⟨rA, rc, rfl, _⟩, hb5⟩
            refine hK _ _ hb5 ?_
            clear hK K
            have HB5 : Hid (Below w2.heap.size w2 w5) := HB4.out.trans (hb5.mono HB4.out.size)
            clear hb5
            iterate 4 (refine Sched.walkK_quiet (by kernel_rfl) (fun K hK => ?_); go_big_quiet_op; refine hK _ ?_; clear hK K)
            refine Sched.walkK_done ?_
            go_wp2_with fail
            go_meet
            exact ⟨rfl, HB5.out⟩
          · refine Sched.walkK_one (by kernel_rfl) (fun K hK => ?_)
            go_simp
            refine hK _ _ (keepAll.refl _) ?_
            clear hK K
            refine Sched.walkK_one (by kernel_rfl) (fun K hK => ?_)
            go_simp
            refine GB.out.mono ?_
            rintro e w3 ⟨⟨v3, rfl, ho3⟩, hb3⟩
            refine hK _ _ hb3 ?_
            clear hK K
            obtain ⟨cA, cc, rfl⟩ := own_slice ho3
            have hcat := BytesAt.of_own ho3 rfl
            have vb : ∀ e : ExtK keepAll w3, (convert 31 9 (.slice cA D.length cc)).run Try.prog e.val = .ok (.string (bstr D)) e.val := fun e => (hcat.below e.property).conv cc 9 Try.underlying9
            have HB3 : Hid (Below w2.heap.size w2 w3) := (Below.refl w2.heap.size w2).drew.trans hb3
            clear ho3 hb3
            iterate 1 (refine Sched.walkK_quiet (by kernel_rfl) (fun K hK => ?_); go_big_quiet_op; refine hK _ ?_; clear hK K)
            clear vb hcat
            refine Sched.walkK_one (by kernel_rfl) (fun K hK => ?_)
            go_simp
            refine (GD.out w3).mono ?_
            rintro e w4 ⟨⟨da, dc, rfl, hdat, _⟩, hb4⟩
            refine hK _ _ hb4 ?_
            clear hK K
            have vd : ∀ e : ExtK keepAll w4, (convert 31 9 (.slice (some ⟨da, 0, none⟩) D.length dc)).run Try.prog e.val = .ok (.string (bstr D)) e.val := fun e => (hdat.below e.property).conv dc 9 Try.underlying9
            have HB4 : Hid (Below w2.heap.size w2 w4) := HB3.out.trans (hb4.mono HB3.out.size)
            clear hb4
            iterate 5 (refine Sched.walkK_quiet (by kernel_rfl) (fun K hK => ?_); go_big_quiet_op; refine hK _ ?_; clear hK K)
            clear vd hdat
            refine Sched.walkK_one (by kernel_rfl) (fun K hK => ?_)
            go_simp
            refine (GRC.out w4 HB4.out).mono ?_
            rintro e w5 ⟨⟨rA, rc, rfl, _⟩, hb5⟩
            refine hK _ _ hb5 ?_
            clear hK K
            have HB5 : Hid (Below w2.heap.size w2 w5) := HB4.out.trans (hb5.mono HB4.out.size)
            clear hb5
            iterate 4 (refine Sched.walkK_quiet (by kernel_rfl) (fun K hK => ?_); go_big_quiet_op; refine hK _ ?_; clear hK K)
            refine Sched.walkK_done ?_
            go_wp2_with fail
            go_meet
            exact ⟨rfl, HB5.out⟩
      case rest =>
        obtain ⟨rfl, hbc⟩ := hcut
        have HJO3 := Lib.hid (HJO2.out.below hbc)
        have HSC : Hid (w2.heap.size ≤ wc.heap.size) := hbc.size
        have HBC : Hid (Below w.heap.size w wc) := HB2.out.trans (hbc.mono HB2.out.size)
        clear hbc
        have htn : (10 * (t : Int)) ≤ 130 := by omega
        go_wp2_with fail
        refine (GDA.out 0 (10 * (t : Int)) (t : Int) wc).mono ?_
        rintro e w4 ⟨⟨da, dc, rfl, hdat, hda⟩, hb4⟩
        have HJO4 := Lib.hid (HJO3.out.below hb4)
        have HB4 : Hid (Below w.heap.size w w4) := HBC.out.trans (hb4.mono HBC.out.size)
        have HAP4 : Hid (∀ y, J2 y → w.heap.size ≤ y ∧ y < w4.heap.size) := fun y hy => ⟨(HAP2.out y hy).1, Nat.lt_of_lt_of_le (HAP2.out y hy).2 (Nat.le_trans HSC.out hb4.size)⟩
        obtain ⟨hdl1, hdl2⟩ := HDL.out (10 * (t : Int)) (t : Int)
        have hdb := HDB.out (10 * (t : Int)) (t : Int)
        obtain ⟨D, HD⟩ : ∃ D, Hid (dataL (10 * (t : Int)) (t : Int) = D) := ⟨_, Lib.hid rfl⟩
        rw [HD.out] at hdat hdl1 hdb ⊢
        have hdl : D.length < 300 := by rw [hdl1]; exact hdl2
        clear hdl1 hdl2
        obtain ⟨tt, HTT⟩ : ∃ tt, Hid ((x.getD ⟨1, [], []⟩).turn + 1 = tt) := ⟨_, Lib.hid rfl⟩
        have hfl := first_le tt D
        have hby := begun_bytes tt D
        have hkk : k + 300000 ≤ 274877906944 := by omega
        have GRS := Lib.hid (reset_any HJO4.out hkk (some ⟨da, 0, none⟩) D dc (by omega) hdb hdat)
        rw [HTT.out] at GRS
        obtain ⟨R, HRR⟩ : ∃ R : RollV, Hid ((⟨tt, D, []⟩ : RollV) = R) := ⟨_, Lib.hid rfl⟩
        have HRF : Hid (R.base = D ∧ R.recs.length = 0) := by rw [← HRR.out]; exact ⟨rfl, rfl⟩
        rw [HRR.out] at GRS hfl hby
        obtain ⟨fl, HFL⟩ : ∃ fl, Hid (R.first.length = fl) := ⟨_, rfl⟩
        rw [HFL.out] at GRS hfl hby
        have HBY : Hid (R.bytes.length ≤ 315) := by show _ ≤ _; omega
        have HDL2 := Lib.hid hdl
        clear hb4 hdat hdb hkk hby
        go_wp2_with fail
        refine GRS.out.mono ?_
        rintro e w5 (⟨hbad, _⟩ | ⟨_, rfl, J5', hJ5', hjo5', hoff5⟩)
        · exfalso
          have h6 : 64 * (200 / 2) = 6400 := rfl
          rw [h6] at hbad
          omega
        obtain ⟨J5, hjo5, hap5, _, hb5⟩ := hjo5'.tidy hJ5' hoff5 HAP4.out HB4.out.size
        have HJO5 := Lib.hid hjo5; have HAP5 := Lib.hid hap5
        have HB5 : Hid (Below w.heap.size w w5) := HB4.out.trans hb5
        clear hjo5' hJ5' hoff5 hjo5 hap5 hb5 hfl hdl
        have GRC := Lib.hid (jrecords_any HJO5.out)
        rw [HRF.out.2] at GRC
        go_wp2_with fail
        refine GRC.out.mono ?_
        rintro e w6 ⟨⟨rA, rc, rfl, _⟩, hb6⟩
        have HJO6 := Lib.hid (HJO5.out.below hb6)
        have HB6 : Hid (Below w.heap.size w w6) := HB5.out.trans (hb6.mono HB5.out.size)
        have HAP6 : Hid (∀ y, J5 y → w.heap.size ≤ y ∧ y < w6.heap.size) := fun y hy => ⟨(HAP5.out y hy).1, Nat.lt_of_lt_of_le (HAP5.out y hy).2 hb6.size⟩
        have HKK := Lib.hid hk
        clear hb6 htn hk
        go_wp2_with fail
        go_loopw [12] (fun vi wr => ∃ (i : Nat) (J : Nat → Prop) (r : RollV), i ≤ n ∧ vi = .int .i64 (i : Int) ∧ Hid (Jo J gj g 200 (k + 300000 + 200000 + i * 100000) r wr ∧ (∀ y, J y → w.heap.size ≤ y ∧ y < wr.heap.size) ∧ r.base = D ∧ r.recs.length = i ∧ r.bytes.length ≤ 315 + i * 309 ∧ Below w.heap.size w wr)) (fun vi _ => n - (intOf vi).toNat)
        case atStart => exact ⟨0, J5, R, Nat.zero_le _, rfl, HJO6.out, HAP6.out, HRF.out.1, HRF.out.2, HBY.out, HB6.out⟩
        case round =>
          obtain ⟨i, J, r, hi, rfl, HI⟩ := hrel
          by_cases hin : i < n
          · go_wp2_with fail
            refine (GDA.out 0 (i : Int) (t : Int) _).mono ?_
            rintro e w7 ⟨⟨da, dc, rfl, hdat, hda⟩, hb7⟩
            have HJO7 := Lib.hid (HI.out.1.below hb7)
            have HB7 : Hid (Below w.heap.size w w7) := HI.out.2.2.2.2.2.trans (hb7.mono HI.out.2.2.2.2.2.size)
            have HAP7 : Hid (∀ y, J y → w.heap.size ≤ y ∧ y < w7.heap.size) := fun y hy => ⟨(HI.out.2.1 y hy).1, Nat.lt_of_lt_of_le (HI.out.2.1 y hy).2 hb7.size⟩
            have HNJ : Hid (∀ a : Addr, some (⟨da, 0, none⟩ : Addr) = some a → ¬J a.block) := fun a ha h => by
              injection ha with ha
              subst ha
              exact Nat.lt_irrefl _ (Nat.lt_of_lt_of_le (HI.out.2.1 _ h).2 hda)
            obtain ⟨hel1, hel2⟩ := HDL.out (i : Int) (t : Int)
            have heb := HDB.out (i : Int) (t : Int)
            obtain ⟨E, HE⟩ : ∃ E, Hid (dataL (i : Int) (t : Int) = E) := ⟨_, Lib.hid rfl⟩
            rw [HE.out] at hdat hel1 heb ⊢
            have hel : E.length < 300 := by rw [hel1]; exact hel2
            clear hel1 hel2
            have hkk : k + 300000 + 200000 + i * 100000 ≤ 274877906944 := by have := HKK.out; omega
            have GAP := Lib.hid (append_any HJO7.out hkk (some ⟨da, 0, none⟩) E dc (by omega) heb hdat HNJ.out)
            have HLM := Lib.hid (len_more r E)
            have hfle := (flen_bounds E.length).2
            obtain ⟨fe, HFE⟩ : ∃ fe, Hid (flen E.length = fe) := ⟨_, rfl⟩
            obtain ⟨rb, HRB⟩ : ∃ rb, Hid (r.bytes.length = rb) := ⟨_, rfl⟩
            rw [HFE.out] at GAP HLM hfle
            rw [HRB.out] at GAP HLM
            have HRBL : Hid (rb ≤ 315 + i * 309 ∧ fe ≤ 309) := ⟨by rw [← HRB.out]; exact HI.out.2.2.2.2.1, by omega⟩
            clear hb7 hdat heb hkk hfle hda
            clear hel
            go_wp2_with fail
            refine GAP.out.mono ?_
            rintro e w8 (⟨hbad, _⟩ | ⟨_, rfl, J8', hJ8', hjo8', hoff8⟩)
            · exfalso
              have h6 : 64 * (200 / 2) = 6400 := rfl
              rw [h6] at hbad
              have := HRBL.out
              omega
            obtain ⟨J8, hjo8, hap8, _, hb8⟩ := hjo8'.tidy hJ8' hoff8 HAP7.out HB7.out.size
            have HJO8 := Lib.hid hjo8; have HAP8 := Lib.hid hap8
            have HB8 : Hid (Below w.heap.size w w8) := HB7.out.trans hb8
            clear hjo8' hJ8' hoff8 hjo8 hap8 hb8
            go_wp2_with fail
            go_roundw
            case measure => simp [intOf]; omega
            refine ⟨i + 1, J8, ⟨r.turn, r.base, r.recs ++ [E]⟩, by omega, by go_num, ?_, HAP8.out, HI.out.2.2.1, ?_, ?_, HB8.out⟩
            · have h := HJO8.out
              rw [show k + 300000 + 200000 + i * 100000 + 100000 = k + 300000 + 200000 + (i + 1) * 100000 by omega] at h
              exact h
            · show (r.recs ++ [E]).length = i + 1
              rw [List.length_append, HI.out.2.2.2.1]
              rfl
            · rw [HLM.out]
              have := HRBL.out
              omega
          · have hie : i = n := by omega
            have HIE := Lib.hid hie; clear hie
            go_wp2_with fail
            refine (jcrash1_any HI.out.1.disk A l c (HSA.out.below HI.out.2.2.2.2.2)).mono ?_
            rintro e w7 ⟨g7, J7', rfl, hd7', hJ7', hb7⟩
            obtain ⟨J7, hd7, hJ7, _⟩ := hd7'.tidy (base := w.heap.size) (fun y hy => Nat.le_trans HI.out.2.2.2.2.2.size (hJ7' y hy))
            have HD7 := Lib.hid hd7; have HJ7 := Lib.hid hJ7
            have HB7 : Hid (Below w.heap.size w w7) := HI.out.2.2.2.2.2.trans (hb7.mono HI.out.2.2.2.2.2.size)
            clear hd7' hJ7' hb7 hd7 hJ7
            go_wp2_with fail
            go_roundw
            case measure => simp [intOf]; omega
            refine ⟨t + 1, g7, _, J7, some r, by omega, ?_, by go_num, rfl, HD7.out, HJ7.out, .inr ⟨r, rfl, by omega, ?_, ?_⟩, HB7.out⟩
            · have := HKK.out
              have h2 := HIE.out
              omega
            · rw [HI.out.2.2.1, ← HD.out]
              congr 1 <;> omega
            · rw [HI.out.2.2.2.1, HIE.out]
    · go_wp2_with fail
      refine (GA.out wr).mono ?_
      rintro e w3 ⟨rfl, hb3⟩
      have HB3 := Lib.hid hb3; clear hb3
      go_wp2
      go_ret
      exact ⟨rfl, HR.out.2.2.2.trans (HB3.out.mono HR.out.2.2.2.size)⟩
end Go.Proofs.Ytahfkcfbmklfpaa

/- JournalTurns holds: what was begun and appended, turn over turn, is what the journal shows, whatever numbers and lengths the law is called with: it answers true and changes nothing. No condition. -/
namespace Go.Proofs.Ytahfkcfbmklfpaa
open Go.ChangeShapes Go.WideShapes Go.ChangeAt Go.RowKit

set_option maxRecDepth 100000 in
theorem journalTurns_lifted (os : Os) (started : os.Started) (H : Type) (enc : TypeId × Value → H) :
    ReturnsInHanded {} Try.checked os 5 .any (Rows.journalTurnsSpec.pre6 enc Try.prog Try.f5 Rows.journalTurnsRow.domain false) (Rows.journalTurnsSpec.post enc Try.prog Try.f5 false true false false) := by
  refine returnsInHanded_of_change (C := Try.checked) law_own started (by kernel_rfl) Try.func5
    (ChangeSpec.witness6 (enc := enc) (C := Try.checked) false ⟨#[], #[.int .i64 0, .int .i64 0, .slice none 0 0], []⟩ 8 (by kernel_rfl) (by kernel_rfl) (by kernel_rfl) (by kernel_rfl)) ?_
  intro W base args ds gs before hval0 hW _ _
  have hval : ∀ (j : Nat) t v, Try.f5.params[j]? = some t → args[j]? = some v → Value.okWide Try.prog W .any base t v := hval0
  have hW' := hW
  obtain ⟨p, q, hA0, hV, rfl, _, _⟩ := hW
  have hlt : ∀ x ∈ p ++ q, x.block < W.heap.size := fun x hx => hW'.lt x hx
  have hA : DataW.TrodAll enc Try.prog W 0 (fun _ => true) true Try.f5.params.toList args.toList ds p := hA0
  rw [Try.params5] at hA hval
  obtain ⟨v0, v1, v2, d0, d1, d2, p0, p1, p2, rfl, rfl, rfl, h0, h1, h2⟩ := trodAll_three hA
  obtain ⟨rfl, rfl⟩ := trodVars_none hV
  obtain ⟨n0, rfl, rfl, rfl, hn0⟩ := open_int Try.underlying3 (hval 0 3 v0 rfl rfl) h0
  obtain ⟨n1, rfl, rfl, rfl, hn1⟩ := open_int Try.underlying3 (hval 1 3 v1 rfl rfl) h1
  obtain ⟨A2, l2, c2, rfl, hat2, _, hlm2⟩ := open_intslice (hval 2 43 v2 rfl rfl) h2 (fun x hx => hlt x (by simp [hx]))
  clear hA0 hval0
  refine (journalTurns_any n0 n1 A2 l2 c2 hlm2 W hat2).mono fun e W' ⟨he, hb⟩ => ?_
  exact ⟨_, he, law_post law_laid (by kernel_rfl) (by kernel_rfl) Try.underlying4 rfl hW' rfl hb⟩

theorem journalTurns_holds : Rows.JournalTurnsSaid :=
  OpenClaim.holds_of_wide 5 Try.f5 rfl rfl rfl rfl rfl rfl rfl ⟨rfl, rfl, rfl, rfl, rfl⟩ rfl rfl rfl rfl rfl (by kernel_rfl) Try.func5 (by kernel_rfl)
    (of_decide_eq_true (by kernel_rfl)) (by unfold Func.isWrapper; first | (rw [if_pos (by decide +kernel)]; kernel_rfl) | (rw [if_neg (by decide +kernel)]; exact ⟨rfl, rfl⟩))
    (fun os started H enc _ => journalTurns_lifted os started H enc)
end Go.Proofs.Ytahfkcfbmklfpaa
