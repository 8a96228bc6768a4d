/- The statements' own look at both disks: they show the same. Condition: fewer than 2^20 steps ahead of it. -/
import Derived.Test.YtnjgjkfdblpddaaDiskDoes
namespace Go.Proofs.Ytnjgjkfdblpddaa
open Go.RowKit Go.Deep

theorem DiskAt.opened {F : Nat → Prop} {g : Nat} {D : DiskD} {w : World} (h : DiskAt F g D w) : ∃ sA sc cA cc, w.rowIs g 59 5 (diskCells sA D.safe.length sc cA D.cache.length cc D.left D.off D.ops) := by
  obtain ⟨_, _, sA, sc, cA, cc, vs, rs, hr, _⟩ := h
  exact ⟨sA, sc, cA, cc, hr⟩
/-- Both tell the same of a sector. -/
def ReadBoth (D : DiskD) (j : Int) (w : World) (e : Ending) (w' : World) : Prop :=
  ∃ (A : Option Addr) (X : List Nat) (c : Nat) (z : Int), e = .returned (.tuple #[.slice A (List.length X) c, .int .i64 z]) ∧ BytesAt w' A X ∧ Below w.heap.size w w' ∧
    ((j < 0 ∨ (D.safe.length : Int) ≤ j) ∧ X = [] ∧ z = 1 ∨ ∃ q : Nat, j = (q : Int) ∧ q < D.safe.length ∧ X = secB (D.look q) ∧ z = 0)
theorem ReadEnd.both {D : DiskD} {j : Int} {w : World} {e : Ending} {w' : World} (h : ReadEnd D j w e w') : ReadBoth D j w e w' := by
  rcases h with ⟨hj, rfl, rfl⟩ | ⟨q, A, c, hj, hq, rfl, hat, hb⟩
  · exact ⟨none, [], 0, 1, rfl, .inl rfl, Below.refl _ _, .inl ⟨hj, rfl, rfl⟩⟩
  · exact ⟨A, _, c, 0, rfl, hat, hb, .inr ⟨q, hj, hq, rfl, rfl⟩⟩
theorem ReadBoth.same {D : DiskD} {j : Int} {X Y : List Nat} {y z : Int}
    (h : (j < 0 ∨ (D.safe.length : Int) ≤ j) ∧ X = [] ∧ y = 1 ∨ ∃ q : Nat, j = (q : Int) ∧ q < D.safe.length ∧ X = secB (D.look q) ∧ y = 0)
    (k : (j < 0 ∨ (D.safe.length : Int) ≤ j) ∧ Y = [] ∧ z = 1 ∨ ∃ q : Nat, j = (q : Int) ∧ q < D.safe.length ∧ Y = secB (D.look q) ∧ z = 0) : X = Y ∧ y = z := by
  rcases h with ⟨h1, rfl, rfl⟩ | ⟨q, h1, h2, rfl, rfl⟩ <;> rcases k with ⟨k1, rfl, rfl⟩ | ⟨p, k1, k2, rfl, rfl⟩
  · exact ⟨rfl, rfl⟩
  · omega
  · omega
  · have : q = p := by omega
    subst this
    exact ⟨rfl, rfl⟩

set_option maxHeartbeats 4000000 in
set_option maxRecDepth 100000 in
theorem shows_any (base g gm : Nat) (D : DiskD) (m : Nat) (hm : m ≤ 1048576) (hg : D.Good m) (w : World) (h : Pair base g gm D D w) :
    Calls Try.prog 12 #[.pointer (some ⟨g, 0, none⟩), .pointer (some ⟨gm, 0, none⟩)] w fun e w' => e = .returned (.bool true) ∧ Below w.heap.size w w' := by
  have HP := Lib.hid h
  have HG := Lib.hid hg
  obtain ⟨O, hl, hd, hno, hob, hgm⟩ := h
  have HL := Lib.hid hl; have HD := Lib.hid hd
  obtain ⟨sA, sc, cA, cc, hr⟩ := hd.opened
  have c0 : w.cell? ⟨gm, 0, none⟩ = some (.slice sA D.safe.length sc) := (hr.cell (i := 0) (by omega)).trans rfl
  have c1 : w.cell? ⟨gm, 1, none⟩ = some (.slice cA D.cache.length cc) := (hr.cell (i := 1) (by omega)).trans rfl
  have c4 : w.cell? ⟨gm, 4, none⟩ = some (.int .i64 (D.ops : Int)) := (hr.cell (i := 4) (by omega)).trans rfl
  have HR := Lib.hid hr
  have e0 : ∀ e : ExtK (keepBlocks [gm]) w.drew, e.val.cell? ⟨gm, 0, none⟩ = some (.slice sA D.safe.length sc) := fun e => (cell_of_block (e.property.2 gm (by simp)) 0).trans c0
  have e1 : ∀ e : ExtK (keepBlocks [gm]) w.drew, e.val.cell? ⟨gm, 1, none⟩ = some (.slice cA D.cache.length cc) := fun e => (cell_of_block (e.property.2 gm (by simp)) 1).trans c1
  have e4 : ∀ e : ExtK (keepBlocks [gm]) w.drew, e.val.cell? ⟨gm, 4, none⟩ = some (.int .i64 (D.ops : Int)) := fun e => (cell_of_block (e.property.2 gm (by simp)) 4).trans c4
  clear c0 c1 c4 hr hl hd hno hob hgm hg
  have HLD : Hid (LandAt O g D w.drew) := HL.out.kept (Nat.le_refl _) fun _ _ => rfl
  go_enter Try.func12, Try.ntmps12
  go_wp2_with fail
  refine wp_region_held_lit (keepBlocks [gm]) [(0, true), (1, true), (2, true), (3, true), (4, true), (5, true), (6, true), (7, true), (9, true), (10, true), (11, true), (12, true), (13, true), (8, false), (14, true), (15, true), (16, true), (17, true), (19, true), (20, true), (21, true), (22, true), (23, true), (18, false), (24, true), (25, true), (26, true), (27, true), (29, true), (30, true), (31, true), (32, true), (28, false), (33, true), (34, true)] (by kernel_rfl) (by kernel_rfl) (fun _ _ d _ _ h => by cases d <;> exact h) ?_
  simp only [picked, List.map_cons, List.map_nil, List.getElem?_cons_succ, List.getElem?_cons_zero, Option.getD_some]
  repeat (refine wpH_quiet (by rfl) (fun K hK => ?_); go_big_quiet_op; refine hK _ ?_; clear hK K)
  refine wpH_one (by rfl) (fun K hK => ?_)
  go_simp
  refine (landSectors_any O g D w.drew HLD.out).mono ?_
  rintro e w' ⟨rfl, rfl⟩
  refine hK _ _ ((keepBlocks [gm]).refl _) ?_
  clear hK K
  repeat (refine wpH_quiet (by rfl) (fun K hK => ?_); go_big_quiet_op; refine hK _ ?_; clear hK K)
  refine wpH_one (by rfl) (fun K hK => ?_)
  go_simp
  refine (landCached_any O g D w.drew HLD.out).mono ?_
  rintro e w' ⟨rfl, rfl⟩
  refine hK _ _ ((keepBlocks [gm]).refl _) ?_
  clear hK K
  repeat (refine wpH_quiet (by rfl) (fun K hK => ?_); go_big_quiet_op; refine hK _ ?_; clear hK K)
  refine wpH_one (by rfl) (fun K hK => ?_)
  go_simp
  refine (landOps_any O g D w.drew HLD.out).mono ?_
  rintro e w' ⟨rfl, rfl⟩
  refine hK _ _ ((keepBlocks [gm]).refl _) ?_
  clear hK K
  repeat (refine wpH_quiet (by rfl) (fun K hK => ?_); go_big_quiet_op; refine hK _ ?_; clear hK K)
  refine wpH_nil ?_
  clear e0 e1 e4
  go_wp2_with fail
  have HS : Hid (D.safe.length ≤ 65536) := HG.out.fit.most
  obtain ⟨M, HM⟩ : ∃ M : Nat, Hid (min D.safe.length 40 = M) := ⟨_, Lib.hid rfl⟩
  go_loopw [5] (fun i wr => ∃ j : Int, i = .int .i64 j ∧ -1 ≤ j ∧ j ≤ (M : Int) + 1 ∧ Below w.heap.size w wr) (fun i _ => ((M : Int) + 1 - intOf i).toNat)
  case atStart => exact ⟨-1, rfl, by omega, by omega, (Below.refl w.heap.size w).drew⟩
  case round =>
    obtain ⟨j, rfl, hj1, hj2, hbl⟩ := hrel
    have HBL := Lib.hid hbl; clear hbl
    have HPR := Lib.hid (HP.out.below HBL.out)
    have c0 : wr.cell? ⟨gm, 0, none⟩ = some (.slice sA D.safe.length sc) := ((HR.out.of_block (HBL.out.block gm HR.out.lt)).cell (i := 0) (by omega)).trans rfl
    obtain ⟨O2, hl2, hd2, hno2, hob2, hgm2⟩ := HPR.out
    have HL2 := Lib.hid hl2; have HD2 := Lib.hid hd2
    clear hl2 hd2 hno2 hob2 hgm2
    have hs := HS.out
    have hmin := HM.out
    have hm' : m ≤ 1048576 := hm
    have c0' : (0 : Nat) < 1 := by omega
    by_cases h40 : (40 : Int) < (D.safe.length : Int)
    · have hM : (M : Int) = 40 := by omega
      clear hmin hm
      by_cases hle : j ≤ 40
      · have hj40 : j ≤ 40 := by omega
        clear c0'
        go_wp2_with fail
        refine (landRead_any O2 g D j wr HL2.out).mono ?_
        intro e w2 hre
        obtain ⟨A1, X, k1, y, rfl, hat1, hb1, hX⟩ := hre.both
        have HA1 := Lib.hid hat1; have HB1 := Lib.hid hb1; have HX := Lib.hid hX
        clear hat1 hb1 hX hre
        go_wp2_with fail
        refine (refDiskRead_any _ gm D (Nat.le_trans HG.out.cached hm') (by have := HS.out; omega) j w2 (HD2.out.below HB1.out)).mono ?_
        intro e w3 hre
        obtain ⟨A2, Y, k2, z, rfl, hat2, hb2, hY⟩ := hre.both
        obtain ⟨rfl, rfl⟩ := ReadBoth.same HX.out hY
        have HA2 := Lib.hid hat2; have HB2 := Lib.hid hb2
        clear hat2 hb2 hY hre
        have hc1 := (HA1.out.below HB2.out).conv k1 9 Try.underlying9
        have hc2 := HA2.out.conv k2 9 Try.underlying9
        go_wp2_with fail
        go_roundw
        case measure => simp [intOf]; omega
        exact ⟨j + 1, by go_num, by omega, by omega, HBL.out.trans ((HB1.out.mono HBL.out.size).trans (HB2.out.mono (Nat.le_trans HBL.out.size HB1.out.size)))⟩
      · go_wp2
        go_ret
        exact ⟨rfl, HBL.out⟩
    · have hM : (M : Int) = (D.safe.length : Int) := by omega
      clear hmin hm
      by_cases hle : j ≤ (D.safe.length : Int)
      · have hj40 : j ≤ 40 := by omega
        clear c0'
        go_wp2_with fail
        refine (landRead_any O2 g D j wr HL2.out).mono ?_
        intro e w2 hre
        obtain ⟨A1, X, k1, y, rfl, hat1, hb1, hX⟩ := hre.both
        have HA1 := Lib.hid hat1; have HB1 := Lib.hid hb1; have HX := Lib.hid hX
        clear hat1 hb1 hX hre
        go_wp2_with fail
        refine (refDiskRead_any _ gm D (Nat.le_trans HG.out.cached hm') (by have := HS.out; omega) j w2 (HD2.out.below HB1.out)).mono ?_
        intro e w3 hre
        obtain ⟨A2, Y, k2, z, rfl, hat2, hb2, hY⟩ := hre.both
        obtain ⟨rfl, rfl⟩ := ReadBoth.same HX.out hY
        have HA2 := Lib.hid hat2; have HB2 := Lib.hid hb2
        clear hat2 hb2 hY hre
        have hc1 := (HA1.out.below HB2.out).conv k1 9 Try.underlying9
        have hc2 := HA2.out.conv k2 9 Try.underlying9
        go_wp2_with fail
        go_roundw
        case measure => simp [intOf]; omega
        exact ⟨j + 1, by go_num, by omega, by omega, HBL.out.trans ((HB1.out.mono HBL.out.size).trans (HB2.out.mono (Nat.le_trans HBL.out.size HB1.out.size)))⟩
      · go_wp2
        go_ret
        exact ⟨rfl, HBL.out⟩
end Go.Proofs.Ytnjgjkfdblpddaa
