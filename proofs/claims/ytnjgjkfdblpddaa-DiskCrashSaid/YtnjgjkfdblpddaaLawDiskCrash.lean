/- The law DiskCrash: behind a crash what was flushed is there, of the others those that the picks say, one of them torn; the old disk stays; so it goes on, crash behind crash. No condition beyond the arguments' own bounds. -/
import Derived.Test.YtnjgjkfdblpddaaLawDiskPlays
namespace Go.Proofs.Ytnjgjkfdblpddaa
open Go.RowKit Go.Deep

/-- Both crash: two new disks, alike; the old ones stay. -/
theorem pair_crash {base gm gy : Nat} {D : DiskD} {p : List Int} {w w1 w2 : World} {gx : Nat} (hbw : base ≤ w.heap.size) (hb1 : Below w.heap.size w w1) (hlx : LandAt (fun x => w.heap.size ≤ x ∧ x < w1.heap.size) gx (D.crash p) w1)
    (hgy : w1.heap.size ≤ gy) (hb2 : Below w1.heap.size w1 w2) {O : Nat → Prop} (hdy : ∀ F' : Nat → Prop, F' gy → (∀ b, F' b → ((O b ∨ b = gm) ∨ w.heap.size ≤ b ∧ b < w1.heap.size) ∨ b = gy) → DiskAt F' gy (D.crash p) w2) : Pair base gx gy (D.crash p) (D.crash p) w2 :=
  ⟨_, hlx.below hb2, hdy (fun x => (w.heap.size ≤ x ∧ x < w1.heap.size) ∨ x = gy) (.inr rfl) (fun b hb => hb.imp .inr id), fun h => by omega, fun x hx => by omega, by have := hb1.size; omega⟩
theorem DiskAt.wider {O : Nat → Prop} {gm : Nat} {D : DiskD} {w w1 : World} (h : DiskAt (fun x => O x ∨ x = gm) gm D w) (hb : Below w.heap.size w w1) : DiskAt (fun x => (O x ∨ x = gm) ∨ w.heap.size ≤ x ∧ x < w1.heap.size) gm D w1 :=
  h.kept hb.size (fun b hlt _ => hb.block b hlt) (fun _ hx => hx.imp id And.left) (fun b hx => hx.elim (fun h2 => Nat.lt_of_lt_of_le (h.2.1 b h2) hb.size) And.right) (.inl (.inr rfl))

set_option maxHeartbeats 4000000 in
set_option maxRecDepth 100000 in
theorem diskCrash_any (n : Int) (A : Option Addr) (l : List StepV) (c : Nat) (A2 : Option Addr) (p : List Int) (c2 : Nat) (A3 : Option Addr) (l3 : List StepV) (c3 : Nat) (A4 : Option Addr) (p4 : List Int) (c4 : Nat)
    (hc : l.length ≤ maxLen) (hc2 : p.length ≤ maxLen) (hc3 : l3.length ≤ maxLen) (hc4 : p4.length ≤ maxLen) (hg : ∀ s ∈ l, s.Good) (hg3 : ∀ s ∈ l3, s.Good) (w : World) (hat : StepsAt w A l) (hat2 : IntsAt w A2 p) (hat3 : StepsAt w A3 l3) (hat4 : IntsAt w A4 p4) :
    Calls Try.prog 4 #[.int .i64 n, .slice A l.length c, .slice A2 p.length c2, .slice A3 l3.length c3, .slice A4 p4.length c4] w fun e w' => e = .returned (.bool true) ∧ Below w.heap.size w w' := by
  have GA := Lib.hid awake_any
  have HAT := Lib.hid hat; have HG := Lib.hid hg
  have HAT2 := Lib.hid hat2; have HAT3 := Lib.hid hat3; have HAT4 := Lib.hid hat4; have HG3 := Lib.hid hg3
  clear hat hg hat2 hat3 hat4 hg3
  simp only [maxLen] at hc hc2 hc3 hc4
  by_cases hl : l.length ≤ 60
  rotate_left
  · clear HAT
    go_enter Try.func4, Try.ntmps4
    go_wp2_with fail
    refine (GA.out w).mono ?_
    rintro e w3 ⟨rfl, hb3⟩
    have HB3 := Lib.hid hb3; clear hb3
    go_wp2
    go_ret
    exact ⟨rfl, HB3.out⟩
  by_cases hl3 : l3.length ≤ 60
  rotate_left
  · clear HAT
    go_enter Try.func4, Try.ntmps4
    go_wp2_with fail
    refine (GA.out w).mono ?_
    rintro e w3 ⟨rfl, hb3⟩
    have HB3 := Lib.hid hb3; clear hb3
    go_wp2
    go_ret
    exact ⟨rfl, HB3.out⟩
  by_cases hp2 : p.length ≤ 10
  rotate_left
  · clear HAT
    go_enter Try.func4, Try.ntmps4
    go_wp2_with fail
    refine (GA.out w).mono ?_
    rintro e w3 ⟨rfl, hb3⟩
    have HB3 := Lib.hid hb3; clear hb3
    go_wp2
    go_ret
    exact ⟨rfl, HB3.out⟩
  by_cases hp4 : p4.length ≤ 10
  rotate_left
  · clear HAT
    go_enter Try.func4, Try.ntmps4
    go_wp2_with fail
    refine (GA.out w).mono ?_
    rintro e w3 ⟨rfl, hb3⟩
    have HB3 := Lib.hid hb3; clear hb3
    go_wp2
    go_ret
    exact ⟨rfl, HB3.out⟩
  by_cases hn1 : 1 ≤ n
  rotate_left
  · clear HAT
    go_enter Try.func4, Try.ntmps4
    go_wp2_with fail
    refine (GA.out w).mono ?_
    rintro e w3 ⟨rfl, hb3⟩
    have HB3 := Lib.hid hb3; clear hb3
    go_wp2
    go_ret
    exact ⟨rfl, HB3.out⟩
  by_cases hn2 : n ≤ 60
  rotate_left
  · clear HAT
    go_enter Try.func4, Try.ntmps4
    go_wp2_with fail
    refine (GA.out w).mono ?_
    rintro e w3 ⟨rfl, hb3⟩
    have HB3 := Lib.hid hb3; clear hb3
    go_wp2
    go_ret
    exact ⟨rfl, HB3.out⟩
  go_enter Try.func4, Try.ntmps4
  go_wp2_with fail
  refine (landNew_any n w).mono ?_
  rintro e w1 (⟨hn, rfl, rfl⟩ | ⟨k, g, rfl, hk1, hk2, rfl, hl1, hg1, hb1⟩)
  · omega
  have HL1 := Lib.hid hl1; have HB1 := Lib.hid hb1; have HG1 := Lib.hid hg1
  clear hl1 hb1 hg1
  go_wp2_with fail
  refine (refNew_any k w1).mono ?_
  rintro e w2 (⟨hn, _⟩ | ⟨k', gm, hk', _, _, rfl, hd2, hgm, hlt2, hb2⟩)
  · omega
  obtain rfl : k = k' := by omega
  have HP2 : Hid (Pair w.heap.size g gm (DiskD.new k) (DiskD.new k) w2) := by
    have hs1 := HB1.out.size
    exact ⟨_, HL1.out.below hb2, hd2 _ (.inr rfl) (fun b hb => hb.imp (fun h => h.2) id), fun h => by omega, fun x hx => hx.1, by omega⟩
  have HB2 : Hid (Below w.heap.size w w2) := HB1.out.trans (hb2.mono HB1.out.size)
  have HGD := Lib.hid (good_new hk1 hk2)
  clear hd2 hgm hlt2 hb2 hk'
  go_wp2_with fail
  go_loopw [15] (fun i wr => ∃ k2 : Nat, k2 ≤ l.length ∧ i = .int .i64 k2 ∧ Pair w.heap.size g gm (goD (DiskD.new k) l k2) (goD (DiskD.new k) l k2) wr ∧ Below w.heap.size w wr) (fun i _ => l.length - (intOf i).toNat)
  case atStart => exact ⟨0, Nat.zero_le _, rfl, by rw [goD_zero]; exact HP2.out, HB2.out⟩
  case round =>
    obtain ⟨j, hj, rfl, hp, hb⟩ := hrel
    have HP := Lib.hid hp; have HB := Lib.hid hb
    clear hp hb
    by_cases hlt : j < l.length
    · have HGJ := Lib.hid (goD_good HGD.out HG.out j hj)
      have HNX := Lib.hid (goD_next (D := (DiskD.new k)) hlt)
      have HSG := Lib.hid (HG.out _ (List.getElem_mem hlt))
      obtain ⟨ab, ao, rfl, _⟩ := HAT.out.form (by omega)
      obtain ⟨q0, q1, q2⟩ := (HAT.out.below HB.out).at_ hlt
      obtain ⟨S, HS⟩ : ∃ S, Hid (l[j] = S) := ⟨_, Lib.hid rfl⟩
      rw [HS.out] at q0 q1 q2 HNX HSG
      obtain ⟨sk, sa, sn⟩ := S
      simp only at q0 q1 q2 HNX
      obtain ⟨D1, HD1⟩ : ∃ D, Hid (goD (DiskD.new k) l j = D) := ⟨_, Lib.hid rfl⟩
      rw [HD1.out] at HP HGJ HNX
      go_wp2_with fail
      refine (does_any w.heap.size g gm D1 60 (by omega) (HGJ.out.more (by omega)) sk sa sn HSG.out.2.2.2 wr HP.out).mono ?_
      rintro e w4 ⟨rfl, hp4, hb4⟩
      rw [← HNX.out] at hp4
      have HP4 := Lib.hid hp4; have HB4 := Lib.hid hb4
      clear hp4 hb4
      generalize (stepD D1 sk sa sn).2 = z
      go_wp2
      go_roundw
      case measure => simp [intOf]; omega
      exact ⟨j + 1, by omega, by go_num, HP4.out, HB.out.trans HB4.out⟩
    · obtain rfl : j = l.length := by omega
      have HGL := Lib.hid (goD_good HGD.out HG.out l.length (Nat.le_refl _))
      obtain ⟨D1, HD1⟩ : ∃ D, Hid (goD (DiskD.new k) l l.length = D) := ⟨_, Lib.hid rfl⟩
      rw [HD1.out] at HP HGL
      have HSW := Lib.hid HB.out.size
      obtain ⟨O, hl0, hd0, hno0, hob0, hgm0⟩ := HP.out
      have HLD := Lib.hid hl0; have HDD := Lib.hid hd0
      clear hl0 hd0 hno0 hob0 hgm0
      go_wp2_with fail
      refine (landCrash_any O g D1 (Nat.le_trans HGL.out.cached (by omega)) HGL.out.fit A2 p c2 wr (HAT2.out.below HB.out) HLD.out).mono ?_
      rintro e wa ⟨hx, rfl, hlx, hgx, hba⟩
      have HLX := Lib.hid hlx; have HBA := Lib.hid hba
      clear hlx hgx hba
      have HDW := Lib.hid (HDD.out.wider HBA.out)
      go_wp2_with fail
      refine (refDiskCrash_any _ gm D1 (Nat.le_trans HGL.out.cached (by omega)) (Nat.le_trans HGL.out.fit.most (by omega)) HGL.out.wf A2 p c2 wa ((HAT2.out.below HB.out).below HBA.out) HDW.out).mono ?_
      rintro e wb ⟨hy, rfl, hgy, hgyl, hdy, hbb⟩
      have HPX := Lib.hid (pair_crash HSW.out HBA.out HLX.out hgy hbb hdy)
      have HBB : Hid (Below wr.heap.size wr wb) := HBA.out.trans (hbb.mono HBA.out.size)
      clear hgy hgyl hdy hbb
      have HPO := Lib.hid (HP.out.below HBB.out)
      have HGX := Lib.hid (HGL.out.crash p)
      go_wp2_with fail
      refine (shows_any w.heap.size hx hy _ 60 (by omega) (HGX.out.more (by omega)) wb HPX.out).mono ?_
      rintro e wc ⟨rfl, hbc⟩
      have HBC := Lib.hid hbc; clear hbc
      go_wp2_with fail
      refine (shows_any w.heap.size g gm _ 60 (by omega) (HGL.out.more (by omega)) wc (HPO.out.below HBC.out)).mono ?_
      rintro e wd ⟨rfl, hbd⟩
      have HBD : Hid (Below wb.heap.size wb wd) := HBC.out.trans (hbd.mono HBC.out.size)
      have HPD := Lib.hid (HPX.out.below HBD.out)
      have HBW : Hid (Below w.heap.size w wd) := HB.out.trans ((HBB.out.mono HB.out.size).trans (HBD.out.mono (Nat.le_trans HB.out.size HBB.out.size)))
      clear hbd
      clear HP HB HBA HBB HBC HBD HLX HDW HLD HDD HPO HPX
      obtain ⟨DX, HDX⟩ : ∃ D, Hid (D1.crash p = D) := ⟨_, Lib.hid rfl⟩
      rw [HDX.out] at HPD HGX
      go_wp2_with fail
      go_loopw [20] (fun i wr => ∃ k2 : Nat, k2 ≤ l3.length ∧ i = .int .i64 k2 ∧ Pair w.heap.size hx hy (goD DX l3 k2) (goD DX l3 k2) wr ∧ Below w.heap.size w wr) (fun i _ => l3.length - (intOf i).toNat)
      case atStart => exact ⟨0, Nat.zero_le _, rfl, by rw [goD_zero]; exact HPD.out, HBW.out⟩
      case round =>
        obtain ⟨j, hj, rfl, hp, hb⟩ := hrel
        have HP := Lib.hid hp; have HB := Lib.hid hb
        clear hp hb
        by_cases hlt : j < l3.length
        · have HGJ := Lib.hid (goD_good HGX.out HG3.out j hj)
          have HNX := Lib.hid (goD_next (D := DX) hlt)
          have HSG := Lib.hid (HG3.out _ (List.getElem_mem hlt))
          obtain ⟨ab, ao, rfl, _⟩ := HAT3.out.form (by omega)
          obtain ⟨q0, q1, q2⟩ := (HAT3.out.below HB.out).at_ hlt
          obtain ⟨S, HS⟩ : ∃ S, Hid (l3[j] = S) := ⟨_, Lib.hid rfl⟩
          rw [HS.out] at q0 q1 q2 HNX HSG
          obtain ⟨sk, sa, sn⟩ := S
          simp only at q0 q1 q2 HNX
          obtain ⟨D1, HD1⟩ : ∃ D, Hid (goD DX l3 j = D) := ⟨_, Lib.hid rfl⟩
          rw [HD1.out] at HP HGJ HNX
          go_wp2_with fail
          refine (does_any w.heap.size hx hy D1 60 (by omega) (HGJ.out.more (by omega)) sk sa sn HSG.out.2.2.2 wr HP.out).mono ?_
          rintro e w4 ⟨rfl, hp4, hb4⟩
          rw [← HNX.out] at hp4
          have HP4 := Lib.hid hp4; have HB4 := Lib.hid hb4
          clear hp4 hb4
          generalize (stepD D1 sk sa sn).2 = z
          go_wp2
          go_roundw
          case measure => simp [intOf]; omega
          exact ⟨j + 1, by omega, by go_num, HP4.out, HB.out.trans HB4.out⟩
        · obtain rfl : j = l3.length := by omega
          have HGM := Lib.hid (goD_good HGX.out HG3.out l3.length (Nat.le_refl _))
          obtain ⟨D2, HD2⟩ : ∃ D, Hid (goD DX l3 l3.length = D) := ⟨_, Lib.hid rfl⟩
          rw [HD2.out] at HP HGM
          have HSW := Lib.hid HB.out.size
          obtain ⟨O, hl0, hd0, hno0, hob0, hgm0⟩ := HP.out
          have HLD := Lib.hid hl0; have HDD := Lib.hid hd0
          clear hl0 hd0 hno0 hob0 hgm0
          go_wp2_with fail
          refine (landCrash_any O hx D2 (Nat.le_trans HGM.out.cached (by omega)) HGM.out.fit A4 p4 c4 wr (HAT4.out.below HB.out) HLD.out).mono ?_
          rintro e wa ⟨jx, rfl, hlx, hgx, hba⟩
          have HLX := Lib.hid hlx; have HBA := Lib.hid hba
          clear hlx hgx hba
          have HDW := Lib.hid (HDD.out.wider HBA.out)
          go_wp2_with fail
          refine (refDiskCrash_any _ hy D2 (Nat.le_trans HGM.out.cached (by omega)) (Nat.le_trans HGM.out.fit.most (by omega)) HGM.out.wf A4 p4 c4 wa ((HAT4.out.below HB.out).below HBA.out) HDW.out).mono ?_
          rintro e wb ⟨jy, rfl, hgy, hgyl, hdy, hbb⟩
          have HPX := Lib.hid (pair_crash HSW.out HBA.out HLX.out hgy hbb hdy)
          have HBB : Hid (Below wr.heap.size wr wb) := HBA.out.trans (hbb.mono HBA.out.size)
          clear hgy hgyl hdy hbb
          have HPO := Lib.hid (HP.out.below HBB.out)
          have HGY := Lib.hid (HGM.out.crash p4)
          go_wp2_with fail
          refine (shows_any w.heap.size jx jy _ 60 (by omega) (HGY.out.more (by omega)) wb HPX.out).mono ?_
          rintro e wc ⟨rfl, hbc⟩
          have HBC := Lib.hid hbc; clear hbc
          go_wp2_with fail
          refine (shows_any w.heap.size hx hy _ 60 (by omega) (HGM.out.more (by omega)) wc (HPO.out.below HBC.out)).mono ?_
          rintro e wd ⟨rfl, hbd⟩
          have HBW : Hid (Below w.heap.size w wd) := HB.out.trans ((HBB.out.mono HB.out.size).trans ((HBC.out.trans (hbd.mono HBC.out.size)).mono (Nat.le_trans HB.out.size HBB.out.size)))
          clear hbd
          go_wp2_with fail
          refine (GA.out wd).mono ?_
          rintro e we ⟨rfl, hbe⟩
          have HBE := Lib.hid hbe; clear hbe
          go_wp2
          go_ret
          exact ⟨rfl, HBW.out.trans (HBE.out.mono HBW.out.size)⟩
end Go.Proofs.Ytnjgjkfdblpddaa
