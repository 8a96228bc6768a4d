/- CodecReads holds: any bytes are read as the document says, till they fail, the first error stays, and what is left is told: whatever bytes, kinds and limit the law is called with, it answers true and changes nothing. No condition. (Merged of 3 texts.) -/
import Derived.Test.YtkapfijokmajlaaQRd
import Derived.Test.YtkapfijokmajlaaQRl
import Derived.Test.YtkapfijokmajlaaQIn
import Derived.Test.YtkapfijokmajlaaQParts
import Derived.ChangeMaps5
/- The walk of the law CodecReads: whatever bytes, kinds and limit it is called with, it answers true; what was there stays as it was. No condition beyond lengths of memory. -/
namespace Go.Proofs.Ytkapfijokmajlaa
open Go.RowKit Go.Deep

theorem own_len {w : World} {base : Nat} {e : TypeId} {size : Nat} {v : Value} {n : Nat} {xs : List Value} (h : w.ownsRow base e size v n xs) : n ≤ maxLen := by
  rcases h.2 with ⟨_, h0⟩ | ⟨_, _, _, _, _, _, h1, h2, _⟩
  · rw [h0]; exact Nat.zero_le _
  · exact Nat.le_trans h1 h2
/-- A row of another type than the block that alone was written. -/
theorem own_only_type {w w' : World} {base gm : Nat} {e t : TypeId} {size sz : Nat} {v : Value} {n : Nat} {xs : List Value} {f : Nat → Value} (h : w.ownsRow base e size v n xs) (hr : w.rowIs gm t sz f) (he : e ≠ t) (ho : Only gm w w') : w'.ownsRow base e size v n xs := by
  refine ⟨h.1, ?_⟩
  rcases h.2 with h2 | ⟨g', cap, cur, hv, hgb, hh, h3, h4, h5⟩
  · exact .inl h2
  · have hlt : g' < w.heap.size := by
      rcases Nat.lt_or_ge g' w.heap.size with hlt | hge
      · exact hlt
      · rw [Array.getElem?_eq_none hge] at hh; cases hh
    have hne : g' ≠ gm := by
      intro e0
      subst e0
      obtain ⟨c, hc, _⟩ := hr
      rw [hh] at hc
      injection hc with hc
      injection hc with _ hc
      exact he hc
    exact .inr ⟨g', cap, cur, hv, hgb, by rw [ho.block g' hlt hne]; exact hh, h3, h4, h5⟩
theorem InAt.cells {W : World} {g : Nat} {s : Rd} {w : World} (h : InAt W g s w) : ∃ A c, w.cell? ⟨g, 0, none⟩ = some (.slice A s.1.length c) ∧ w.cell? ⟨g, 1, none⟩ = some (.int .i64 (s.2 : Int)) := by
  obtain ⟨A, c, hr, _⟩ := h
  exact ⟨A, c, (hr.cell (i := 0) (by omega)).trans rfl, (hr.cell (i := 1) (by omega)).trans rfl⟩
theorem InAt.lt {W : World} {g : Nat} {s : Rd} {w : World} (h : InAt W g s w) : g < w.heap.size := by obtain ⟨_, _, hr, _⟩ := h; exact hr.lt
theorem InAt.upto {W : World} {g : Nat} {s : Rd} {w : World} (h : InAt W g s w) : Below W.heap.size W w := by obtain ⟨_, _, _, _, _, _, _, _, hb⟩ := h; exact hb
/-- Both readers, side by side. -/
def Both (w W1 : World) (g gm : Nat) (s : Rd) (x : World) : Prop := RdrAt W1 g s x ∧ InAt w gm s x ∧ w.heap.size ≤ g ∧ g < gm ∧ W1.heap.size ≤ g
theorem Both.below {w W1 : World} {g gm : Nat} {s : Rd} {x x' : World} (h : Both w W1 g gm s x) (hb : Below x.heap.size x x') : Both w W1 g gm s x' := ⟨h.1.below hb, h.2.1.below hb, h.2.2⟩
/-- Each of both goes on. -/
theorem Both.go {w W1 : World} {g gm : Nat} {s s' : Rd} {x y z : World} (h : Both w W1 g gm s x) (h1 : RdrAt W1 g s' y) (o1 : Only g x y) (h2 : InAt w gm s y → InAt w gm s' z ∧ Only gm y z) : Both w W1 g gm s' z := by
  obtain ⟨_, b, c, d, e⟩ := h
  have hin := b.kept o1 (by omega) c
  obtain ⟨q1, q2⟩ := h2 hin
  exact ⟨h1.kept q2 (by omega) (by omega), q1, c, d, e⟩
theorem Both.mid {w W1 : World} {g gm : Nat} {s : Rd} {x y : World} (h : Both w W1 g gm s x) (o1 : Only g x y) : InAt w gm s y := h.2.1.kept o1 (by have := h.2.2.2.1; omega) h.2.2.1

theorem rdNodes_length (s : Rd) : (rdNodes s).1.1.length ≤ s.1.length := Nat.le_trans (rdMany_length rdNode rdNode_length _ _) (rdCount_length 100 s)
theorem rdActs_length (s : Rd) : (rdActs s).1.1.length ≤ s.1.length := Nat.le_trans (rdMany_length rdAct rdAct_length _ _) (rdCount_length 20 s)

set_option maxHeartbeats 8000000 in
set_option maxRecDepth 100000 in
theorem codecReads_in {A : Option Addr} {l : List Nat} (c : Nat) (hl : ¬ 600 < l.length) (hlc : l.length ≤ c) (hcm : c ≤ maxLen) (hb : ∀ x ∈ l, x < 256) {B : Option Addr} {z : List Int} (d : Nat) (hz : ¬ 60 < z.length) (most : Nat) (hm : ¬ 1048576 < most) (w : World) (hA : BytesAt w A l) (hB : IntsAt w B z) :
    Calls Try.prog 4 #[.slice A l.length c, .slice B z.length d, .int .i64 (most : Int)] w fun e w' => e = .returned (.bool true) ∧ Below w.heap.size w w' := by
  have GA := Lib.hid (fun w => awake_any w)
  have GNR := Lib.hid (newReader_any A l c (by omega) hb w hA)
  have HA := Lib.hid hA; clear hA
  have HB := Lib.hid hB; clear hB
  have HBY := Lib.hid hb; clear hb
  have HLC := Lib.hid hlc; clear hlc
  have HCM := Lib.hid hcm; clear hcm
  go_enter Try.func4, Try.ntmps4
  go_wp2_with fail
  refine GNR.out.mono ?_
  rintro e w1 ⟨W1, g, rfl, hr1, hbW⟩
  have hW1 : W1.heap.size ≤ g := by obtain ⟨_, _, _, _, _, _, _, hg, _⟩ := hr1; exact hg
  have hbr : Below W1.heap.size W1 w1 := by obtain ⟨_, _, _, _, _, _, _, _, hb⟩ := hr1; exact hb
  have hb1 : Below w.heap.size w w1 := hbW.trans (hbr.mono hbW.size)
  have HB0 : Hid (Both w W1 g w1.heap.size (l, 0) (w1.alloc (.cells #[.slice A l.length c, .int .i64 0] 36))) := by
    have hal : Below w1.heap.size w1 (w1.alloc (.cells #[.slice A l.length c, .int .i64 0] 36)) := (Below.refl _ _).alloc (Nat.le_refl _) _
    refine ⟨hr1.below hal, ⟨A, c, ?_, HA.out, HLC.out, HCM.out, HBY.out, hb1.size, hb1.trans (hal.mono hb1.size)⟩, Nat.le_trans hbW.size hW1, hr1.lt, hW1⟩
    exact World.rowIs_alloc w1 _ _ _ (fun i hi => by
      have : i = 0 ∨ i = 1 := by simp at hi; omega
      rcases this with rfl | rfl <;> rfl)
  clear hr1 hbW hW1 hbr hb1
  go_wp2
  obtain ⟨gm, HGM⟩ : ∃ gm, Hid (w1.heap.size = gm) := ⟨_, rfl⟩
  obtain ⟨w2, HW2⟩ : ∃ w2, Hid (w1.alloc (.cells #[.slice A l.length c, .int .i64 0] 36) = w2) := ⟨_, rfl⟩
  rw [HW2.out, HGM.out] at HB0
  rw [HW2.out, HGM.out]
  go_loopw [9, 10, 11] (fun i _ _ wr => ∃ k : Nat, k ≤ z.length ∧ i = .int .i64 k ∧ ∃ s, Both w W1 g gm s wr ∧ s.1.length ≤ 1099511627776) (fun i _ _ _ => z.length - (intOf i).toNat)
  case atStart => exact ⟨0, Nat.zero_le _, rfl, (l, 0), HB0.out, by show l.length ≤ _; omega⟩
  case round =>
    obtain ⟨k, hk, rfl, s, hbo, hsl⟩ := hrel
    have HBW := Lib.hid hbo; have HSL := Lib.hid hsl; clear hbo hsl
    by_cases hlt : k < z.length
    · obtain ⟨b2, o2, rfl, _⟩ := HB.out.form (by omega)
      have hcell := (HB.out.below HBW.out.2.1.upto).cell hlt
      obtain ⟨j, HJ⟩ : ∃ j, Hid (rnd z[k] 6 = j) := ⟨rnd z[k] 6, Lib.hid rfl⟩
      have hj6 : j < 6 := by rw [← HJ.out]; exact rnd_lt _ (by omega)
      have GRD := Lib.hid (fun w => alikeRound_any z[k] 6 (by omega) (by omega) w)
      rw [HJ.out] at GRD
      obtain ⟨zk, HZK⟩ : ∃ zk, Hid (z[k] = zk) := ⟨z[k], Lib.hid rfl⟩
      rw [HZK.out] at hcell GRD
      have hj : j = 0 ∨ j = 1 ∨ j = 2 ∨ j = 3 ∨ j = 4 ∨ j = 5 := by omega
      clear hj6
      rcases hj with rfl | rfl | rfl | rfl | rfl | rfl
      · have G1 := Lib.hid (fun x hh => rdrNum_any W1 g s x hh)
        have G2 := Lib.hid (fun x hh => refInNum_any w gm s x hh)
        have HSL2 : Hid ((rdNum s).1.1.length ≤ 1099511627776) := Nat.le_trans (rdNum_length s) HSL.out
        obtain ⟨Y, HY⟩ : ∃ Y, Hid (rdNum s = Y) := ⟨_, rfl⟩
        rw [HY.out] at G1 G2 HSL2
        obtain ⟨s2, y⟩ := Y
        simp only at G1 G2 HSL2
        go_wp2_with fail
        refine (GRD.out _).mono ?_
        rintro e w' ⟨rfl, rfl⟩
        clear hcell
        go_wp2_with fail
        refine (G1.out _ HBW.out.1).mono ?_
        rintro e w3 ⟨rfl, h3, o3⟩
        have HM3 := Lib.hid (HBW.out.mid o3); have H3 := Lib.hid h3; have O3 := Lib.hid o3; clear h3 o3
        go_wp2_with fail
        refine (G2.out _ HM3.out).mono ?_
        rintro e w5 ⟨rfl, h5, o5⟩
        have HBO : Hid (Both w W1 g gm s2 w5) := HBW.out.go H3.out O3.out (fun _ => ⟨h5, o5⟩)
        clear h5 o5
        obtain ⟨A9, c9, m0, m1⟩ := HBO.out.2.1.cells
        have GLF := Lib.hid (fun x hh => rdrLeft_any W1 g s2 x hh)
        have GER := Lib.hid (fun x hh => rdErr_any W1 g s2 x hh)
        by_cases hz : s2.2 = 0
        · have ELF : Hid ((lft s2).length = s2.1.length) := by show _ = _; rw [lft, if_pos hz]
          rw [ELF.out] at GLF
          have HZ := Lib.hid hz
          rw [hz] at m1 GER
          clear hz
          have n1 : ∀ e : ExtK (keepBlocks [gm]) w5.drew, e.val.cell? ⟨gm, 1, none⟩ = some (.int .i64 0) := fun e => (cell_of_block (e.property.2 gm (by simp)) 1).trans m1
          go_wp2_with fail
          refine wp_region_held_lit (keepBlocks [gm]) [(0, true), (1, true), (2, true), (3, true), (5, true), (4, false), (6, true), (7, true), (8, true), (9, true), (11, true), (12, true), (13, true), (14, true), (10, false), (15, true), (16, true)] (by kernel_rfl) (by kernel_rfl) (fun _ _ d _ _ h => by cases d <;> exact h) ?_
          simp only [picked, List.map_cons, List.map_nil, List.getElem?_cons_succ, List.getElem?_cons_zero, Option.getD_some]
          repeat (first | (refine wpH_quiet (by rfl) (fun K hK => ?_); go_big_quiet_op; refine hK _ ?_; clear hK K) | (refine wpH_skip (by rfl) ?_; simp only [Act.put, List.setIfInBounds_toArray, List.set_cons_zero, List.set_cons_succ]))
          refine wpH_one (by rfl) (fun K hK => ?_)
          go_simp
          refine (GLF.out _ HBO.out.1.drew).mono ?_
          rintro e w' ⟨rfl, rfl⟩
          refine hK _ _ ((keepBlocks [gm]).refl _) ?_
          clear hK K
          repeat (first | (refine wpH_quiet (by rfl) (fun K hK => ?_); go_big_quiet_op; refine hK _ ?_; clear hK K) | (refine wpH_skip (by rfl) ?_; simp only [Act.put, List.setIfInBounds_toArray, List.set_cons_zero, List.set_cons_succ]))
          refine wpH_one (by rfl) (fun K hK => ?_)
          go_simp
          refine (GER.out _ HBO.out.1.drew).mono ?_
          rintro e w' ⟨rfl, rfl⟩
          refine hK _ _ ((keepBlocks [gm]).refl _) ?_
          clear hK K
          repeat (first | (refine wpH_quiet (by rfl) (fun K hK => ?_); go_big_quiet_op; refine hK _ ?_; clear hK K) | (refine wpH_skip (by rfl) ?_; simp only [Act.put, List.setIfInBounds_toArray, List.set_cons_zero, List.set_cons_succ]))
          refine wpH_nil ?_
          clear n1
          go_wp2
          go_roundw
          case rel => exact ⟨k + 1, by omega, by go_num, s2, HBO.out.below (Below.refl _ _).drew, HSL2.out⟩
          case measure => simp [intOf]; omega
        · have ELF : Hid ((lft s2).length = 0) := by show _ = _; rw [lft, if_neg hz]; rfl
          rw [ELF.out] at GLF
          obtain ⟨E, HE⟩ : ∃ E, Hid (s2.2 = E) := ⟨_, rfl⟩
          rw [HE.out] at m1 GER hz
          have hz' : ((E : Int) != 0) = true := by simp; omega
          have hz2 : ((E : Int) != (E : Int)) = false := by simp
          clear hz
          have n1 : ∀ e : ExtK (keepBlocks [gm]) w5.drew, e.val.cell? ⟨gm, 1, none⟩ = some (.int .i64 (E : Int)) := fun e => (cell_of_block (e.property.2 gm (by simp)) 1).trans m1
          go_wp2_with fail
          refine wp_region_held_lit (keepBlocks [gm]) [(0, true), (1, true), (2, true), (3, true), (5, true), (4, false), (6, true), (7, true), (8, true), (9, true), (11, true), (12, true), (13, true), (14, true), (10, false), (15, true), (16, true)] (by kernel_rfl) (by kernel_rfl) (fun _ _ d _ _ h => by cases d <;> exact h) ?_
          simp only [picked, List.map_cons, List.map_nil, List.getElem?_cons_succ, List.getElem?_cons_zero, Option.getD_some]
          repeat (first | (refine wpH_quiet (by rfl) (fun K hK => ?_); go_big_quiet_op; refine hK _ ?_; clear hK K) | (refine wpH_skip (by rfl) ?_; simp only [Act.put, List.setIfInBounds_toArray, List.set_cons_zero, List.set_cons_succ]))
          refine wpH_one (by rfl) (fun K hK => ?_)
          go_simp
          refine (GLF.out _ HBO.out.1.drew).mono ?_
          rintro e w' ⟨rfl, rfl⟩
          refine hK _ _ ((keepBlocks [gm]).refl _) ?_
          clear hK K
          repeat (first | (refine wpH_quiet (by rfl) (fun K hK => ?_); go_big_quiet_op; refine hK _ ?_; clear hK K) | (refine wpH_skip (by rfl) ?_; simp only [Act.put, List.setIfInBounds_toArray, List.set_cons_zero, List.set_cons_succ]))
          refine wpH_one (by rfl) (fun K hK => ?_)
          go_simp
          refine (GER.out _ HBO.out.1.drew).mono ?_
          rintro e w' ⟨rfl, rfl⟩
          refine hK _ _ ((keepBlocks [gm]).refl _) ?_
          clear hK K
          repeat (first | (refine wpH_quiet (by rfl) (fun K hK => ?_); go_big_quiet_op; refine hK _ ?_; clear hK K) | (refine wpH_skip (by rfl) ?_; simp only [Act.put, List.setIfInBounds_toArray, List.set_cons_zero, List.set_cons_succ]))
          refine wpH_nil ?_
          clear n1
          go_wp2
          go_roundw
          case rel => exact ⟨k + 1, by omega, by go_num, s2, HBO.out.below (Below.refl _ _).drew, HSL2.out⟩
          case measure => simp [intOf]; omega
      · have G1 := Lib.hid (fun x hh => rdrText_any W1 g s most HSL.out x hh)
        have G2 := Lib.hid (fun x hh => refInText_any w gm s most HSL.out x hh)
        have HSL2 : Hid ((rdText most s).1.1.length ≤ 1099511627776) := Nat.le_trans (rdText_length most s) HSL.out
        obtain ⟨Y, HY⟩ : ∃ Y, Hid (rdText most s = Y) := ⟨_, rfl⟩
        rw [HY.out] at G1 G2 HSL2
        obtain ⟨s2, y⟩ := Y
        simp only at G1 G2 HSL2
        go_wp2_with fail
        refine (GRD.out _).mono ?_
        rintro e w' ⟨rfl, rfl⟩
        clear hcell
        go_wp2_with fail
        refine (G1.out _ HBW.out.1).mono ?_
        rintro e w3 ⟨rfl, h3, o3⟩
        have HM3 := Lib.hid (HBW.out.mid o3); have H3 := Lib.hid h3; have O3 := Lib.hid o3; clear h3 o3
        go_wp2_with fail
        refine (G2.out _ HM3.out).mono ?_
        rintro e w5 ⟨rfl, h5, o5⟩
        have HBO : Hid (Both w W1 g gm s2 w5) := HBW.out.go H3.out O3.out (fun _ => ⟨h5, o5⟩)
        clear h5 o5
        obtain ⟨A9, c9, m0, m1⟩ := HBO.out.2.1.cells
        have GLF := Lib.hid (fun x hh => rdrLeft_any W1 g s2 x hh)
        have GER := Lib.hid (fun x hh => rdErr_any W1 g s2 x hh)
        by_cases hz : s2.2 = 0
        · have ELF : Hid ((lft s2).length = s2.1.length) := by show _ = _; rw [lft, if_pos hz]
          rw [ELF.out] at GLF
          have HZ := Lib.hid hz
          rw [hz] at m1 GER
          clear hz
          have n1 : ∀ e : ExtK (keepBlocks [gm]) w5.drew, e.val.cell? ⟨gm, 1, none⟩ = some (.int .i64 0) := fun e => (cell_of_block (e.property.2 gm (by simp)) 1).trans m1
          go_wp2_with fail
          refine wp_region_held_lit (keepBlocks [gm]) [(0, true), (1, true), (2, true), (3, true), (5, true), (4, false), (6, true), (7, true), (8, true), (9, true), (11, true), (12, true), (13, true), (14, true), (10, false), (15, true), (16, true)] (by kernel_rfl) (by kernel_rfl) (fun _ _ d _ _ h => by cases d <;> exact h) ?_
          simp only [picked, List.map_cons, List.map_nil, List.getElem?_cons_succ, List.getElem?_cons_zero, Option.getD_some]
          repeat (first | (refine wpH_quiet (by rfl) (fun K hK => ?_); go_big_quiet_op; refine hK _ ?_; clear hK K) | (refine wpH_skip (by rfl) ?_; simp only [Act.put, List.setIfInBounds_toArray, List.set_cons_zero, List.set_cons_succ]))
          refine wpH_one (by rfl) (fun K hK => ?_)
          go_simp
          refine (GLF.out _ HBO.out.1.drew).mono ?_
          rintro e w' ⟨rfl, rfl⟩
          refine hK _ _ ((keepBlocks [gm]).refl _) ?_
          clear hK K
          repeat (first | (refine wpH_quiet (by rfl) (fun K hK => ?_); go_big_quiet_op; refine hK _ ?_; clear hK K) | (refine wpH_skip (by rfl) ?_; simp only [Act.put, List.setIfInBounds_toArray, List.set_cons_zero, List.set_cons_succ]))
          refine wpH_one (by rfl) (fun K hK => ?_)
          go_simp
          refine (GER.out _ HBO.out.1.drew).mono ?_
          rintro e w' ⟨rfl, rfl⟩
          refine hK _ _ ((keepBlocks [gm]).refl _) ?_
          clear hK K
          repeat (first | (refine wpH_quiet (by rfl) (fun K hK => ?_); go_big_quiet_op; refine hK _ ?_; clear hK K) | (refine wpH_skip (by rfl) ?_; simp only [Act.put, List.setIfInBounds_toArray, List.set_cons_zero, List.set_cons_succ]))
          refine wpH_nil ?_
          clear n1
          go_wp2
          go_roundw
          case rel => exact ⟨k + 1, by omega, by go_num, s2, HBO.out.below (Below.refl _ _).drew, HSL2.out⟩
          case measure => simp [intOf]; omega
        · have ELF : Hid ((lft s2).length = 0) := by show _ = _; rw [lft, if_neg hz]; rfl
          rw [ELF.out] at GLF
          obtain ⟨E, HE⟩ : ∃ E, Hid (s2.2 = E) := ⟨_, rfl⟩
          rw [HE.out] at m1 GER hz
          have hz' : ((E : Int) != 0) = true := by simp; omega
          have hz2 : ((E : Int) != (E : Int)) = false := by simp
          clear hz
          have n1 : ∀ e : ExtK (keepBlocks [gm]) w5.drew, e.val.cell? ⟨gm, 1, none⟩ = some (.int .i64 (E : Int)) := fun e => (cell_of_block (e.property.2 gm (by simp)) 1).trans m1
          go_wp2_with fail
          refine wp_region_held_lit (keepBlocks [gm]) [(0, true), (1, true), (2, true), (3, true), (5, true), (4, false), (6, true), (7, true), (8, true), (9, true), (11, true), (12, true), (13, true), (14, true), (10, false), (15, true), (16, true)] (by kernel_rfl) (by kernel_rfl) (fun _ _ d _ _ h => by cases d <;> exact h) ?_
          simp only [picked, List.map_cons, List.map_nil, List.getElem?_cons_succ, List.getElem?_cons_zero, Option.getD_some]
          repeat (first | (refine wpH_quiet (by rfl) (fun K hK => ?_); go_big_quiet_op; refine hK _ ?_; clear hK K) | (refine wpH_skip (by rfl) ?_; simp only [Act.put, List.setIfInBounds_toArray, List.set_cons_zero, List.set_cons_succ]))
          refine wpH_one (by rfl) (fun K hK => ?_)
          go_simp
          refine (GLF.out _ HBO.out.1.drew).mono ?_
          rintro e w' ⟨rfl, rfl⟩
          refine hK _ _ ((keepBlocks [gm]).refl _) ?_
          clear hK K
          repeat (first | (refine wpH_quiet (by rfl) (fun K hK => ?_); go_big_quiet_op; refine hK _ ?_; clear hK K) | (refine wpH_skip (by rfl) ?_; simp only [Act.put, List.setIfInBounds_toArray, List.set_cons_zero, List.set_cons_succ]))
          refine wpH_one (by rfl) (fun K hK => ?_)
          go_simp
          refine (GER.out _ HBO.out.1.drew).mono ?_
          rintro e w' ⟨rfl, rfl⟩
          refine hK _ _ ((keepBlocks [gm]).refl _) ?_
          clear hK K
          repeat (first | (refine wpH_quiet (by rfl) (fun K hK => ?_); go_big_quiet_op; refine hK _ ?_; clear hK K) | (refine wpH_skip (by rfl) ?_; simp only [Act.put, List.setIfInBounds_toArray, List.set_cons_zero, List.set_cons_succ]))
          refine wpH_nil ?_
          clear n1
          go_wp2
          go_roundw
          case rel => exact ⟨k + 1, by omega, by go_num, s2, HBO.out.below (Below.refl _ _).drew, HSL2.out⟩
          case measure => simp [intOf]; omega
      · have G1 := Lib.hid (fun x hh => rdrFlag_any W1 g s x hh)
        have G2 := Lib.hid (fun x hh => refInFlag_any w gm s x hh)
        have HSL2 : Hid ((rdFlag s).1.1.length ≤ 1099511627776) := Nat.le_trans (rdFlag_length s) HSL.out
        obtain ⟨Y, HY⟩ : ∃ Y, Hid (rdFlag s = Y) := ⟨_, rfl⟩
        rw [HY.out] at G1 G2 HSL2
        obtain ⟨s2, y⟩ := Y
        simp only at G1 G2 HSL2
        go_wp2_with fail
        refine (GRD.out _).mono ?_
        rintro e w' ⟨rfl, rfl⟩
        clear hcell
        go_wp2_with fail
        refine (G1.out _ HBW.out.1).mono ?_
        rintro e w3 ⟨rfl, h3, o3⟩
        have HM3 := Lib.hid (HBW.out.mid o3); have H3 := Lib.hid h3; have O3 := Lib.hid o3; clear h3 o3
        go_wp2_with fail
        refine (G2.out _ HM3.out).mono ?_
        rintro e w5 ⟨rfl, h5, o5⟩
        have HBO : Hid (Both w W1 g gm s2 w5) := HBW.out.go H3.out O3.out (fun _ => ⟨h5, o5⟩)
        clear h5 o5
        obtain ⟨A9, c9, m0, m1⟩ := HBO.out.2.1.cells
        have GLF := Lib.hid (fun x hh => rdrLeft_any W1 g s2 x hh)
        have GER := Lib.hid (fun x hh => rdErr_any W1 g s2 x hh)
        by_cases hz : s2.2 = 0
        · have ELF : Hid ((lft s2).length = s2.1.length) := by show _ = _; rw [lft, if_pos hz]
          rw [ELF.out] at GLF
          have HZ := Lib.hid hz
          rw [hz] at m1 GER
          clear hz
          have n1 : ∀ e : ExtK (keepBlocks [gm]) w5.drew, e.val.cell? ⟨gm, 1, none⟩ = some (.int .i64 0) := fun e => (cell_of_block (e.property.2 gm (by simp)) 1).trans m1
          go_wp2_with fail
          refine wp_region_held_lit (keepBlocks [gm]) [(0, true), (1, true), (2, true), (3, true), (5, true), (4, false), (6, true), (7, true), (8, true), (9, true), (11, true), (12, true), (13, true), (14, true), (10, false), (15, true), (16, true)] (by kernel_rfl) (by kernel_rfl) (fun _ _ d _ _ h => by cases d <;> exact h) ?_
          simp only [picked, List.map_cons, List.map_nil, List.getElem?_cons_succ, List.getElem?_cons_zero, Option.getD_some]
          repeat (first | (refine wpH_quiet (by rfl) (fun K hK => ?_); go_big_quiet_op; refine hK _ ?_; clear hK K) | (refine wpH_skip (by rfl) ?_; simp only [Act.put, List.setIfInBounds_toArray, List.set_cons_zero, List.set_cons_succ]))
          refine wpH_one (by rfl) (fun K hK => ?_)
          go_simp
          refine (GLF.out _ HBO.out.1.drew).mono ?_
          rintro e w' ⟨rfl, rfl⟩
          refine hK _ _ ((keepBlocks [gm]).refl _) ?_
          clear hK K
          repeat (first | (refine wpH_quiet (by rfl) (fun K hK => ?_); go_big_quiet_op; refine hK _ ?_; clear hK K) | (refine wpH_skip (by rfl) ?_; simp only [Act.put, List.setIfInBounds_toArray, List.set_cons_zero, List.set_cons_succ]))
          refine wpH_one (by rfl) (fun K hK => ?_)
          go_simp
          refine (GER.out _ HBO.out.1.drew).mono ?_
          rintro e w' ⟨rfl, rfl⟩
          refine hK _ _ ((keepBlocks [gm]).refl _) ?_
          clear hK K
          repeat (first | (refine wpH_quiet (by rfl) (fun K hK => ?_); go_big_quiet_op; refine hK _ ?_; clear hK K) | (refine wpH_skip (by rfl) ?_; simp only [Act.put, List.setIfInBounds_toArray, List.set_cons_zero, List.set_cons_succ]))
          refine wpH_nil ?_
          clear n1
          go_wp2
          go_roundw
          case rel => exact ⟨k + 1, by omega, by go_num, s2, HBO.out.below (Below.refl _ _).drew, HSL2.out⟩
          case measure => simp [intOf]; omega
        · have ELF : Hid ((lft s2).length = 0) := by show _ = _; rw [lft, if_neg hz]; rfl
          rw [ELF.out] at GLF
          obtain ⟨E, HE⟩ : ∃ E, Hid (s2.2 = E) := ⟨_, rfl⟩
          rw [HE.out] at m1 GER hz
          have hz' : ((E : Int) != 0) = true := by simp; omega
          have hz2 : ((E : Int) != (E : Int)) = false := by simp
          clear hz
          have n1 : ∀ e : ExtK (keepBlocks [gm]) w5.drew, e.val.cell? ⟨gm, 1, none⟩ = some (.int .i64 (E : Int)) := fun e => (cell_of_block (e.property.2 gm (by simp)) 1).trans m1
          go_wp2_with fail
          refine wp_region_held_lit (keepBlocks [gm]) [(0, true), (1, true), (2, true), (3, true), (5, true), (4, false), (6, true), (7, true), (8, true), (9, true), (11, true), (12, true), (13, true), (14, true), (10, false), (15, true), (16, true)] (by kernel_rfl) (by kernel_rfl) (fun _ _ d _ _ h => by cases d <;> exact h) ?_
          simp only [picked, List.map_cons, List.map_nil, List.getElem?_cons_succ, List.getElem?_cons_zero, Option.getD_some]
          repeat (first | (refine wpH_quiet (by rfl) (fun K hK => ?_); go_big_quiet_op; refine hK _ ?_; clear hK K) | (refine wpH_skip (by rfl) ?_; simp only [Act.put, List.setIfInBounds_toArray, List.set_cons_zero, List.set_cons_succ]))
          refine wpH_one (by rfl) (fun K hK => ?_)
          go_simp
          refine (GLF.out _ HBO.out.1.drew).mono ?_
          rintro e w' ⟨rfl, rfl⟩
          refine hK _ _ ((keepBlocks [gm]).refl _) ?_
          clear hK K
          repeat (first | (refine wpH_quiet (by rfl) (fun K hK => ?_); go_big_quiet_op; refine hK _ ?_; clear hK K) | (refine wpH_skip (by rfl) ?_; simp only [Act.put, List.setIfInBounds_toArray, List.set_cons_zero, List.set_cons_succ]))
          refine wpH_one (by rfl) (fun K hK => ?_)
          go_simp
          refine (GER.out _ HBO.out.1.drew).mono ?_
          rintro e w' ⟨rfl, rfl⟩
          refine hK _ _ ((keepBlocks [gm]).refl _) ?_
          clear hK K
          repeat (first | (refine wpH_quiet (by rfl) (fun K hK => ?_); go_big_quiet_op; refine hK _ ?_; clear hK K) | (refine wpH_skip (by rfl) ?_; simp only [Act.put, List.setIfInBounds_toArray, List.set_cons_zero, List.set_cons_succ]))
          refine wpH_nil ?_
          clear n1
          go_wp2
          go_roundw
          case rel => exact ⟨k + 1, by omega, by go_num, s2, HBO.out.below (Below.refl _ _).drew, HSL2.out⟩
          case measure => simp [intOf]; omega
      · have G1 := Lib.hid (fun x hh => rdrComps_any W1 g s HSL.out x hh)
        have G2 := Lib.hid (fun x hh => refInComps_any w gm s HSL.out x hh)
        have HSL2 : Hid ((rdComps s).1.1.length ≤ 1099511627776) := Nat.le_trans (rdComps_length s) HSL.out
        obtain ⟨Y, HY⟩ : ∃ Y, Hid (rdComps s = Y) := ⟨_, rfl⟩
        rw [HY.out] at G1 G2 HSL2
        obtain ⟨s2, y⟩ := Y
        simp only at G1 G2 HSL2
        go_wp2_with fail
        refine (GRD.out _).mono ?_
        rintro e w' ⟨rfl, rfl⟩
        clear hcell
        go_wp2_with fail
        refine (G1.out _ HBW.out.1).mono ?_
        rintro e w3 ⟨⟨A3, c3, rfl, w3o⟩, h3, o3⟩
        have HM3 := Lib.hid (HBW.out.mid o3); have H3 := Lib.hid h3; have O3 := Lib.hid o3; have HW3 := Lib.hid w3o; clear h3 o3 w3o
        go_wp2_with fail
        refine (G2.out _ HM3.out).mono ?_
        rintro e w4 ⟨⟨A4, c4, rfl, AT4⟩, h5, o5⟩
        have HBO4 : Hid (Both w W1 g gm s2 w4) := HBW.out.go H3.out O3.out (fun _ => ⟨h5, o5⟩)
        have HAT3 := Lib.hid (CellsAt.of_own (own_only HW3.out o5 (HBW.out.2.1.lt)))
        have HAT4 := Lib.hid (CellsAt.of_own AT4)
        have HLM := Lib.hid (own_len HW3.out)
        clear h5 o5 AT4
        have GSM := Lib.hid (refSame_alike A3 A4 c3 c4 y HLM.out w4 HAT3.out HAT4.out)
        go_wp2_with fail
        refine GSM.out.mono ?_
        rintro e w5 ⟨rfl, hb5⟩
        have HBO : Hid (Both w W1 g gm s2 w5) := HBO4.out.below hb5
        clear hb5
        obtain ⟨A9, c9, m0, m1⟩ := HBO.out.2.1.cells
        have GLF := Lib.hid (fun x hh => rdrLeft_any W1 g s2 x hh)
        have GER := Lib.hid (fun x hh => rdErr_any W1 g s2 x hh)
        by_cases hz : s2.2 = 0
        · have ELF : Hid ((lft s2).length = s2.1.length) := by show _ = _; rw [lft, if_pos hz]
          rw [ELF.out] at GLF
          have HZ := Lib.hid hz
          rw [hz] at m1 GER
          clear hz
          have n1 : ∀ e : ExtK (keepBlocks [gm]) w5.drew, e.val.cell? ⟨gm, 1, none⟩ = some (.int .i64 0) := fun e => (cell_of_block (e.property.2 gm (by simp)) 1).trans m1
          go_wp2_with fail
          refine wp_region_held_lit (keepBlocks [gm]) [(0, true), (1, true), (2, true), (3, true), (5, true), (4, false), (6, true), (7, true), (8, true), (9, true), (11, true), (12, true), (13, true), (14, true), (10, false), (15, true), (16, true)] (by kernel_rfl) (by kernel_rfl) (fun _ _ d _ _ h => by cases d <;> exact h) ?_
          simp only [picked, List.map_cons, List.map_nil, List.getElem?_cons_succ, List.getElem?_cons_zero, Option.getD_some]
          repeat (first | (refine wpH_quiet (by rfl) (fun K hK => ?_); go_big_quiet_op; refine hK _ ?_; clear hK K) | (refine wpH_skip (by rfl) ?_; simp only [Act.put, List.setIfInBounds_toArray, List.set_cons_zero, List.set_cons_succ]))
          refine wpH_one (by rfl) (fun K hK => ?_)
          go_simp
          refine (GLF.out _ HBO.out.1.drew).mono ?_
          rintro e w' ⟨rfl, rfl⟩
          refine hK _ _ ((keepBlocks [gm]).refl _) ?_
          clear hK K
          repeat (first | (refine wpH_quiet (by rfl) (fun K hK => ?_); go_big_quiet_op; refine hK _ ?_; clear hK K) | (refine wpH_skip (by rfl) ?_; simp only [Act.put, List.setIfInBounds_toArray, List.set_cons_zero, List.set_cons_succ]))
          refine wpH_one (by rfl) (fun K hK => ?_)
          go_simp
          refine (GER.out _ HBO.out.1.drew).mono ?_
          rintro e w' ⟨rfl, rfl⟩
          refine hK _ _ ((keepBlocks [gm]).refl _) ?_
          clear hK K
          repeat (first | (refine wpH_quiet (by rfl) (fun K hK => ?_); go_big_quiet_op; refine hK _ ?_; clear hK K) | (refine wpH_skip (by rfl) ?_; simp only [Act.put, List.setIfInBounds_toArray, List.set_cons_zero, List.set_cons_succ]))
          refine wpH_nil ?_
          clear n1
          go_wp2
          go_roundw
          case rel => exact ⟨k + 1, by omega, by go_num, s2, HBO.out.below (Below.refl _ _).drew, HSL2.out⟩
          case measure => simp [intOf]; omega
        · have ELF : Hid ((lft s2).length = 0) := by show _ = _; rw [lft, if_neg hz]; rfl
          rw [ELF.out] at GLF
          obtain ⟨E, HE⟩ : ∃ E, Hid (s2.2 = E) := ⟨_, rfl⟩
          rw [HE.out] at m1 GER hz
          have hz' : ((E : Int) != 0) = true := by simp; omega
          have hz2 : ((E : Int) != (E : Int)) = false := by simp
          clear hz
          have n1 : ∀ e : ExtK (keepBlocks [gm]) w5.drew, e.val.cell? ⟨gm, 1, none⟩ = some (.int .i64 (E : Int)) := fun e => (cell_of_block (e.property.2 gm (by simp)) 1).trans m1
          go_wp2_with fail
          refine wp_region_held_lit (keepBlocks [gm]) [(0, true), (1, true), (2, true), (3, true), (5, true), (4, false), (6, true), (7, true), (8, true), (9, true), (11, true), (12, true), (13, true), (14, true), (10, false), (15, true), (16, true)] (by kernel_rfl) (by kernel_rfl) (fun _ _ d _ _ h => by cases d <;> exact h) ?_
          simp only [picked, List.map_cons, List.map_nil, List.getElem?_cons_succ, List.getElem?_cons_zero, Option.getD_some]
          repeat (first | (refine wpH_quiet (by rfl) (fun K hK => ?_); go_big_quiet_op; refine hK _ ?_; clear hK K) | (refine wpH_skip (by rfl) ?_; simp only [Act.put, List.setIfInBounds_toArray, List.set_cons_zero, List.set_cons_succ]))
          refine wpH_one (by rfl) (fun K hK => ?_)
          go_simp
          refine (GLF.out _ HBO.out.1.drew).mono ?_
          rintro e w' ⟨rfl, rfl⟩
          refine hK _ _ ((keepBlocks [gm]).refl _) ?_
          clear hK K
          repeat (first | (refine wpH_quiet (by rfl) (fun K hK => ?_); go_big_quiet_op; refine hK _ ?_; clear hK K) | (refine wpH_skip (by rfl) ?_; simp only [Act.put, List.setIfInBounds_toArray, List.set_cons_zero, List.set_cons_succ]))
          refine wpH_one (by rfl) (fun K hK => ?_)
          go_simp
          refine (GER.out _ HBO.out.1.drew).mono ?_
          rintro e w' ⟨rfl, rfl⟩
          refine hK _ _ ((keepBlocks [gm]).refl _) ?_
          clear hK K
          repeat (first | (refine wpH_quiet (by rfl) (fun K hK => ?_); go_big_quiet_op; refine hK _ ?_; clear hK K) | (refine wpH_skip (by rfl) ?_; simp only [Act.put, List.setIfInBounds_toArray, List.set_cons_zero, List.set_cons_succ]))
          refine wpH_nil ?_
          clear n1
          go_wp2
          go_roundw
          case rel => exact ⟨k + 1, by omega, by go_num, s2, HBO.out.below (Below.refl _ _).drew, HSL2.out⟩
          case measure => simp [intOf]; omega
      · have G1 := Lib.hid (fun x hh => rdrActs_any W1 g s HSL.out x hh)
        have G2 := Lib.hid (fun x hh => refInActs_any w gm s HSL.out x hh)
        have HSL2 : Hid ((rdActs s).1.1.length ≤ 1099511627776) := Nat.le_trans (rdActs_length s) HSL.out
        obtain ⟨Y, HY⟩ : ∃ Y, Hid (rdActs s = Y) := ⟨_, rfl⟩
        rw [HY.out] at G1 G2 HSL2
        obtain ⟨s2, y⟩ := Y
        simp only at G1 G2 HSL2
        go_wp2_with fail
        refine (GRD.out _).mono ?_
        rintro e w' ⟨rfl, rfl⟩
        clear hcell
        go_wp2_with fail
        refine (G1.out _ HBW.out.1).mono ?_
        rintro e w3 ⟨⟨l3, A3, c3, hs3, rfl, w3o, ow3⟩, h3, o3⟩
        have HM3 := Lib.hid (HBW.out.mid o3); have H3 := Lib.hid h3; have O3 := Lib.hid o3; have HW3 := Lib.hid w3o; have HS3 := Lib.hid hs3; have HOW3 := Lib.hid ow3; clear h3 o3 w3o hs3 ow3
        go_wp2_with fail
        refine (G2.out _ HM3.out).mono ?_
        rintro e w4 ⟨⟨l4, A4, c4, hs4, rfl, w4o, ow4⟩, h5, o5⟩
        have HBO4 : Hid (Both w W1 g gm s2 w4) := HBW.out.go H3.out O3.out (fun _ => ⟨h5, o5⟩)
        have HAT3 : Hid (ActsAt w4 A3 l3) := ⟨CellsAt.of_own (own_only HW3.out o5 (HBW.out.2.1.lt)), fun y hy => by
          obtain ⟨_, _, hri, _⟩ := HM3.out
          exact CellsAt.of_own (own_only_type (HOW3.out y hy) hri (by decide) o5)⟩
        have HAT4 : Hid (ActsAt w4 A4 l4) := ⟨CellsAt.of_own w4o, fun y hy => CellsAt.of_own (ow4 y hy)⟩
        have HLM := Lib.hid (own_len HW3.out)
        have HLO : Hid (∀ y ∈ l3, y.ops.length ≤ maxLen) := fun y hy => own_len (HOW3.out y hy)
        have HSS : Hid (l3.map strip = l4.map strip) := HS3.out.trans hs4.symm
        clear h5 o5 hs4 w4o ow4
        have GSM := Lib.hid (refSameActs_alike A3 A4 c3 c4 l3 l4 HLM.out HLO.out w4 HAT3.out HAT4.out HSS.out)
        go_wp2_with fail
        refine GSM.out.mono ?_
        rintro e w5 ⟨rfl, hb5⟩
        have HBO : Hid (Both w W1 g gm s2 w5) := HBO4.out.below hb5
        clear hb5
        obtain ⟨A9, c9, m0, m1⟩ := HBO.out.2.1.cells
        have GLF := Lib.hid (fun x hh => rdrLeft_any W1 g s2 x hh)
        have GER := Lib.hid (fun x hh => rdErr_any W1 g s2 x hh)
        by_cases hz : s2.2 = 0
        · have ELF : Hid ((lft s2).length = s2.1.length) := by show _ = _; rw [lft, if_pos hz]
          rw [ELF.out] at GLF
          have HZ := Lib.hid hz
          rw [hz] at m1 GER
          clear hz
          have n1 : ∀ e : ExtK (keepBlocks [gm]) w5.drew, e.val.cell? ⟨gm, 1, none⟩ = some (.int .i64 0) := fun e => (cell_of_block (e.property.2 gm (by simp)) 1).trans m1
          go_wp2_with fail
          refine wp_region_held_lit (keepBlocks [gm]) [(0, true), (1, true), (2, true), (3, true), (5, true), (4, false), (6, true), (7, true), (8, true), (9, true), (11, true), (12, true), (13, true), (14, true), (10, false), (15, true), (16, true)] (by kernel_rfl) (by kernel_rfl) (fun _ _ d _ _ h => by cases d <;> exact h) ?_
          simp only [picked, List.map_cons, List.map_nil, List.getElem?_cons_succ, List.getElem?_cons_zero, Option.getD_some]
          repeat (first | (refine wpH_quiet (by rfl) (fun K hK => ?_); go_big_quiet_op; refine hK _ ?_; clear hK K) | (refine wpH_skip (by rfl) ?_; simp only [Act.put, List.setIfInBounds_toArray, List.set_cons_zero, List.set_cons_succ]))
          refine wpH_one (by rfl) (fun K hK => ?_)
          go_simp
          refine (GLF.out _ HBO.out.1.drew).mono ?_
          rintro e w' ⟨rfl, rfl⟩
          refine hK _ _ ((keepBlocks [gm]).refl _) ?_
          clear hK K
          repeat (first | (refine wpH_quiet (by rfl) (fun K hK => ?_); go_big_quiet_op; refine hK _ ?_; clear hK K) | (refine wpH_skip (by rfl) ?_; simp only [Act.put, List.setIfInBounds_toArray, List.set_cons_zero, List.set_cons_succ]))
          refine wpH_one (by rfl) (fun K hK => ?_)
          go_simp
          refine (GER.out _ HBO.out.1.drew).mono ?_
          rintro e w' ⟨rfl, rfl⟩
          refine hK _ _ ((keepBlocks [gm]).refl _) ?_
          clear hK K
          repeat (first | (refine wpH_quiet (by rfl) (fun K hK => ?_); go_big_quiet_op; refine hK _ ?_; clear hK K) | (refine wpH_skip (by rfl) ?_; simp only [Act.put, List.setIfInBounds_toArray, List.set_cons_zero, List.set_cons_succ]))
          refine wpH_nil ?_
          clear n1
          go_wp2
          go_roundw
          case rel => exact ⟨k + 1, by omega, by go_num, s2, HBO.out.below (Below.refl _ _).drew, HSL2.out⟩
          case measure => simp [intOf]; omega
        · have ELF : Hid ((lft s2).length = 0) := by show _ = _; rw [lft, if_neg hz]; rfl
          rw [ELF.out] at GLF
          obtain ⟨E, HE⟩ : ∃ E, Hid (s2.2 = E) := ⟨_, rfl⟩
          rw [HE.out] at m1 GER hz
          have hz' : ((E : Int) != 0) = true := by simp; omega
          have hz2 : ((E : Int) != (E : Int)) = false := by simp
          clear hz
          have n1 : ∀ e : ExtK (keepBlocks [gm]) w5.drew, e.val.cell? ⟨gm, 1, none⟩ = some (.int .i64 (E : Int)) := fun e => (cell_of_block (e.property.2 gm (by simp)) 1).trans m1
          go_wp2_with fail
          refine wp_region_held_lit (keepBlocks [gm]) [(0, true), (1, true), (2, true), (3, true), (5, true), (4, false), (6, true), (7, true), (8, true), (9, true), (11, true), (12, true), (13, true), (14, true), (10, false), (15, true), (16, true)] (by kernel_rfl) (by kernel_rfl) (fun _ _ d _ _ h => by cases d <;> exact h) ?_
          simp only [picked, List.map_cons, List.map_nil, List.getElem?_cons_succ, List.getElem?_cons_zero, Option.getD_some]
          repeat (first | (refine wpH_quiet (by rfl) (fun K hK => ?_); go_big_quiet_op; refine hK _ ?_; clear hK K) | (refine wpH_skip (by rfl) ?_; simp only [Act.put, List.setIfInBounds_toArray, List.set_cons_zero, List.set_cons_succ]))
          refine wpH_one (by rfl) (fun K hK => ?_)
          go_simp
          refine (GLF.out _ HBO.out.1.drew).mono ?_
          rintro e w' ⟨rfl, rfl⟩
          refine hK _ _ ((keepBlocks [gm]).refl _) ?_
          clear hK K
          repeat (first | (refine wpH_quiet (by rfl) (fun K hK => ?_); go_big_quiet_op; refine hK _ ?_; clear hK K) | (refine wpH_skip (by rfl) ?_; simp only [Act.put, List.setIfInBounds_toArray, List.set_cons_zero, List.set_cons_succ]))
          refine wpH_one (by rfl) (fun K hK => ?_)
          go_simp
          refine (GER.out _ HBO.out.1.drew).mono ?_
          rintro e w' ⟨rfl, rfl⟩
          refine hK _ _ ((keepBlocks [gm]).refl _) ?_
          clear hK K
          repeat (first | (refine wpH_quiet (by rfl) (fun K hK => ?_); go_big_quiet_op; refine hK _ ?_; clear hK K) | (refine wpH_skip (by rfl) ?_; simp only [Act.put, List.setIfInBounds_toArray, List.set_cons_zero, List.set_cons_succ]))
          refine wpH_nil ?_
          clear n1
          go_wp2
          go_roundw
          case rel => exact ⟨k + 1, by omega, by go_num, s2, HBO.out.below (Below.refl _ _).drew, HSL2.out⟩
          case measure => simp [intOf]; omega
      · have G1 := Lib.hid (fun x hh => rdrNodes_any W1 g s HSL.out x hh)
        have G2 := Lib.hid (fun x hh => refInNodes_any w gm s HSL.out x hh)
        have HSL2 : Hid ((rdNodes s).1.1.length ≤ 1099511627776) := Nat.le_trans (rdNodes_length s) HSL.out
        obtain ⟨Y, HY⟩ : ∃ Y, Hid (rdNodes s = Y) := ⟨_, rfl⟩
        rw [HY.out] at G1 G2 HSL2
        obtain ⟨s2, y⟩ := Y
        simp only at G1 G2 HSL2
        go_wp2_with fail
        refine (GRD.out _).mono ?_
        rintro e w' ⟨rfl, rfl⟩
        clear hcell
        go_wp2_with fail
        refine (G1.out _ HBW.out.1).mono ?_
        rintro e w3 ⟨⟨A3, c3, rfl, w3o⟩, h3, o3⟩
        have HM3 := Lib.hid (HBW.out.mid o3); have H3 := Lib.hid h3; have O3 := Lib.hid o3; have HW3 := Lib.hid w3o; clear h3 o3 w3o
        go_wp2_with fail
        refine (G2.out _ HM3.out).mono ?_
        rintro e w4 ⟨⟨A4, c4, rfl, AT4⟩, h5, o5⟩
        have HBO4 : Hid (Both w W1 g gm s2 w4) := HBW.out.go H3.out O3.out (fun _ => ⟨h5, o5⟩)
        have HAT3 := Lib.hid (CellsAt.of_own (own_only HW3.out o5 (HBW.out.2.1.lt)))
        have HAT4 := Lib.hid (AT4)
        have HLM := Lib.hid (own_len HW3.out)
        clear h5 o5 AT4
        have GSM := Lib.hid (refSameNodes_alike A3 A4 c3 c4 y HLM.out w4 HAT3.out HAT4.out)
        go_wp2_with fail
        refine GSM.out.mono ?_
        rintro e w5 ⟨rfl, hb5⟩
        have HBO : Hid (Both w W1 g gm s2 w5) := HBO4.out.below hb5
        clear hb5
        obtain ⟨A9, c9, m0, m1⟩ := HBO.out.2.1.cells
        have GLF := Lib.hid (fun x hh => rdrLeft_any W1 g s2 x hh)
        have GER := Lib.hid (fun x hh => rdErr_any W1 g s2 x hh)
        by_cases hz : s2.2 = 0
        · have ELF : Hid ((lft s2).length = s2.1.length) := by show _ = _; rw [lft, if_pos hz]
          rw [ELF.out] at GLF
          have HZ := Lib.hid hz
          rw [hz] at m1 GER
          clear hz
          have n1 : ∀ e : ExtK (keepBlocks [gm]) w5.drew, e.val.cell? ⟨gm, 1, none⟩ = some (.int .i64 0) := fun e => (cell_of_block (e.property.2 gm (by simp)) 1).trans m1
          go_wp2_with fail
          refine wp_region_held_lit (keepBlocks [gm]) [(0, true), (1, true), (2, true), (3, true), (5, true), (4, false), (6, true), (7, true), (8, true), (9, true), (11, true), (12, true), (13, true), (14, true), (10, false), (15, true), (16, true)] (by kernel_rfl) (by kernel_rfl) (fun _ _ d _ _ h => by cases d <;> exact h) ?_
          simp only [picked, List.map_cons, List.map_nil, List.getElem?_cons_succ, List.getElem?_cons_zero, Option.getD_some]
          repeat (first | (refine wpH_quiet (by rfl) (fun K hK => ?_); go_big_quiet_op; refine hK _ ?_; clear hK K) | (refine wpH_skip (by rfl) ?_; simp only [Act.put, List.setIfInBounds_toArray, List.set_cons_zero, List.set_cons_succ]))
          refine wpH_one (by rfl) (fun K hK => ?_)
          go_simp
          refine (GLF.out _ HBO.out.1.drew).mono ?_
          rintro e w' ⟨rfl, rfl⟩
          refine hK _ _ ((keepBlocks [gm]).refl _) ?_
          clear hK K
          repeat (first | (refine wpH_quiet (by rfl) (fun K hK => ?_); go_big_quiet_op; refine hK _ ?_; clear hK K) | (refine wpH_skip (by rfl) ?_; simp only [Act.put, List.setIfInBounds_toArray, List.set_cons_zero, List.set_cons_succ]))
          refine wpH_one (by rfl) (fun K hK => ?_)
          go_simp
          refine (GER.out _ HBO.out.1.drew).mono ?_
          rintro e w' ⟨rfl, rfl⟩
          refine hK _ _ ((keepBlocks [gm]).refl _) ?_
          clear hK K
          repeat (first | (refine wpH_quiet (by rfl) (fun K hK => ?_); go_big_quiet_op; refine hK _ ?_; clear hK K) | (refine wpH_skip (by rfl) ?_; simp only [Act.put, List.setIfInBounds_toArray, List.set_cons_zero, List.set_cons_succ]))
          refine wpH_nil ?_
          clear n1
          go_wp2
          go_roundw
          case rel => exact ⟨k + 1, by omega, by go_num, s2, HBO.out.below (Below.refl _ _).drew, HSL2.out⟩
          case measure => simp [intOf]; omega
        · have ELF : Hid ((lft s2).length = 0) := by show _ = _; rw [lft, if_neg hz]; rfl
          rw [ELF.out] at GLF
          obtain ⟨E, HE⟩ : ∃ E, Hid (s2.2 = E) := ⟨_, rfl⟩
          rw [HE.out] at m1 GER hz
          have hz' : ((E : Int) != 0) = true := by simp; omega
          have hz2 : ((E : Int) != (E : Int)) = false := by simp
          clear hz
          have n1 : ∀ e : ExtK (keepBlocks [gm]) w5.drew, e.val.cell? ⟨gm, 1, none⟩ = some (.int .i64 (E : Int)) := fun e => (cell_of_block (e.property.2 gm (by simp)) 1).trans m1
          go_wp2_with fail
          refine wp_region_held_lit (keepBlocks [gm]) [(0, true), (1, true), (2, true), (3, true), (5, true), (4, false), (6, true), (7, true), (8, true), (9, true), (11, true), (12, true), (13, true), (14, true), (10, false), (15, true), (16, true)] (by kernel_rfl) (by kernel_rfl) (fun _ _ d _ _ h => by cases d <;> exact h) ?_
          simp only [picked, List.map_cons, List.map_nil, List.getElem?_cons_succ, List.getElem?_cons_zero, Option.getD_some]
          repeat (first | (refine wpH_quiet (by rfl) (fun K hK => ?_); go_big_quiet_op; refine hK _ ?_; clear hK K) | (refine wpH_skip (by rfl) ?_; simp only [Act.put, List.setIfInBounds_toArray, List.set_cons_zero, List.set_cons_succ]))
          refine wpH_one (by rfl) (fun K hK => ?_)
          go_simp
          refine (GLF.out _ HBO.out.1.drew).mono ?_
          rintro e w' ⟨rfl, rfl⟩
          refine hK _ _ ((keepBlocks [gm]).refl _) ?_
          clear hK K
          repeat (first | (refine wpH_quiet (by rfl) (fun K hK => ?_); go_big_quiet_op; refine hK _ ?_; clear hK K) | (refine wpH_skip (by rfl) ?_; simp only [Act.put, List.setIfInBounds_toArray, List.set_cons_zero, List.set_cons_succ]))
          refine wpH_one (by rfl) (fun K hK => ?_)
          go_simp
          refine (GER.out _ HBO.out.1.drew).mono ?_
          rintro e w' ⟨rfl, rfl⟩
          refine hK _ _ ((keepBlocks [gm]).refl _) ?_
          clear hK K
          repeat (first | (refine wpH_quiet (by rfl) (fun K hK => ?_); go_big_quiet_op; refine hK _ ?_; clear hK K) | (refine wpH_skip (by rfl) ?_; simp only [Act.put, List.setIfInBounds_toArray, List.set_cons_zero, List.set_cons_succ]))
          refine wpH_nil ?_
          clear n1
          go_wp2
          go_roundw
          case rel => exact ⟨k + 1, by omega, by go_num, s2, HBO.out.below (Below.refl _ _).drew, HSL2.out⟩
          case measure => simp [intOf]; omega
    · go_wp2_with fail
      refine (GA.out _).mono ?_
      rintro e w5 ⟨rfl, hb5⟩
      have HB5 : Hid (Below w.heap.size w w5) := HBW.out.2.1.upto.trans (hb5.mono HBW.out.2.1.upto.size)
      clear hb5
      go_wp2
      go_ret
      exact ⟨rfl, HB5.out⟩
end Go.Proofs.Ytkapfijokmajlaa

/- The law CodecReads, over all arguments. No condition beyond lengths of memory. -/
namespace Go.Proofs.Ytkapfijokmajlaa
open Go.RowKit Go.Deep

set_option maxRecDepth 100000 in
theorem codecReads_out (A : Option Addr) (n c : Nat) (B : Option Addr) (k d : Nat) (m : Int) (w : World) (h : 600 < n ∨ (¬ 600 < n ∧ 60 < k) ∨ (¬ 600 < n ∧ ¬ 60 < k ∧ m < 0) ∨ (¬ 600 < n ∧ ¬ 60 < k ∧ ¬ m < 0 ∧ 1048576 < m)) :
    Calls Try.prog 4 #[.slice A n c, .slice B k d, .int .i64 m] w fun e w' => e = .returned (.bool true) ∧ Below w.heap.size w w' := by
  have GA := Lib.hid (awake_any w)
  rcases h with h1 | ⟨h1, h2⟩ | ⟨h1, h2, h3⟩ | ⟨h1, h2, h3, h4⟩
  all_goals
    go_enter Try.func4, Try.ntmps4
    go_wp2_with fail
    refine GA.out.mono ?_
    rintro e w5 ⟨rfl, hb5⟩
    have HB5 := Lib.hid hb5
    clear hb5
    go_wp2
    go_ret
    exact ⟨rfl, HB5.out⟩
theorem codecReads_any {A : Option Addr} {l : List Nat} (c : Nat) (hlc : l.length ≤ c) (hcm : c ≤ maxLen) (hb : ∀ x ∈ l, x < 256) {B : Option Addr} {z : List Int} (d : Nat) (m : Int) (w : World) (hA : BytesAt w A l) (hB : IntsAt w B z) :
    Calls Try.prog 4 #[.slice A l.length c, .slice B z.length d, .int .i64 m] w fun e w' => e = .returned (.bool true) ∧ Below w.heap.size w w' := by
  by_cases h1 : 600 < l.length
  · exact codecReads_out A l.length c B z.length d m w (.inl h1)
  by_cases h2 : 60 < z.length
  · exact codecReads_out A l.length c B z.length d m w (.inr (.inl ⟨h1, h2⟩))
  by_cases h3 : m < 0
  · exact codecReads_out A l.length c B z.length d m w (.inr (.inr (.inl ⟨h1, h2, h3⟩)))
  by_cases h4 : 1048576 < m
  · exact codecReads_out A l.length c B z.length d m w (.inr (.inr (.inr ⟨h1, h2, h3, h4⟩)))
  obtain ⟨q, rfl⟩ : ∃ q : Nat, m = (q : Int) := ⟨m.toNat, by omega⟩
  exact codecReads_in c h1 hlc hcm hb d h2 q (by omega) w hA hB
end Go.Proofs.Ytkapfijokmajlaa

/- CodecReads holds: any bytes are read as the document says, till they fail, the first error stays, and what is left is told: whatever bytes, kinds and limit the law is called with, it answers true and changes nothing. No condition. -/
namespace Go.Proofs.Ytkapfijokmajlaa
open Go.ChangeShapes Go.WideShapes Go.ChangeAt Go.RowKit

set_option maxRecDepth 100000 in
theorem codecReads_lifted (os : Os) (started : os.Started) (H : Type) (enc : TypeId × Value → H) :
    ReturnsInHanded {} Try.checked os 4 .any (Rows.codecReadsSpec.pre6 enc Try.prog Try.f4 Rows.codecReadsRow.domain false) (Rows.codecReadsSpec.post enc Try.prog Try.f4 false true false false) := by
  refine returnsInHanded_of_change (C := Try.checked) law_own started (by kernel_rfl) Try.func4
    (ChangeSpec.witness6 (enc := enc) (C := Try.checked) false ⟨#[], #[.slice none 0 0, .slice none 0 0, .int .i64 0], []⟩ 8 (by kernel_rfl) (by kernel_rfl) (by kernel_rfl) (by kernel_rfl)) ?_
  intro W base args ds gs before hval0 hW _ _
  have hval : ∀ (j : Nat) t v, Try.f4.params[j]? = some t → args[j]? = some v → Value.okWide Try.prog W .any base t v := hval0
  have hW' := hW
  obtain ⟨p, q, hA0, hV, rfl, _, _⟩ := hW
  have hlt : ∀ x ∈ p ++ q, x.block < W.heap.size := fun x hx => hW'.lt x hx
  have hA : DataW.TrodAll enc Try.prog W 0 (fun _ => true) true Try.f4.params.toList args.toList ds p := hA0
  rw [Try.params4] at hA hval
  obtain ⟨v0, v1, v2, d0, d1, d2, p0, p1, p2, rfl, rfl, rfl, h0, h1, h2⟩ := trodAll_three hA
  obtain ⟨rfl, rfl⟩ := trodVars_none hV
  obtain ⟨A, l, c, rfl, hat, hx, hlm, hlc, hcm⟩ := open_bytes_cap (hval 0 25 v0 rfl rfl) h0 (fun x hx => hlt x (by simp [hx]))
  obtain ⟨B, z, d, rfl, hbt, _, _⟩ := open_intslice (hval 1 31 v1 rfl rfl) h1 (fun x hx => hlt x (by simp [hx]))
  obtain ⟨n2, rfl, rfl, rfl, _⟩ := open_int Try.underlying3 (hval 2 3 v2 rfl rfl) h2
  clear hA0 hval0
  refine (codecReads_any c hlc hcm hx d n2 W hat hbt).mono fun e W' ⟨he, hb⟩ => ?_
  exact ⟨_, he, law_post law_laid (by kernel_rfl) (by kernel_rfl) Try.underlying4 rfl hW' rfl hb⟩

theorem codecReads_holds : Rows.CodecReadsSaid :=
  OpenClaim.holds_of_wide 4 Try.f4 rfl rfl rfl rfl rfl rfl rfl ⟨rfl, rfl, rfl, rfl, rfl⟩ rfl rfl rfl rfl rfl (by kernel_rfl) Try.func4 (by kernel_rfl)
    (of_decide_eq_true (by kernel_rfl)) (by unfold Func.isWrapper; first | (rw [if_pos (by decide +kernel)]; kernel_rfl) | (rw [if_neg (by decide +kernel)]; exact ⟨rfl, rfl⟩))
    (fun os started H enc _ => codecReads_lifted os started H enc)
end Go.Proofs.Ytkapfijokmajlaa
