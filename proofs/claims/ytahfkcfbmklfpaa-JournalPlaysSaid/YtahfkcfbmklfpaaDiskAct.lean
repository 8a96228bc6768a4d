/- The landed disk: the contracts of act, Cut, has, Sectors, Cached, Ops, of a disk and of none. Condition: fewer than 2^40 acts. -/
import Derived.Test.YtahfkcfbmklfpaaDisk
namespace Go.Proofs.Ytahfkcfbmklfpaa
open Go.RowKit Go.Deep

set_option maxHeartbeats 1000000 in
set_option maxRecDepth 100000 in
theorem landAct_any (O : Nat → Prop) (g : Nat) (D : DiskD) (hops : D.ops ≤ 1099511627776) (w : World) (h : LandAt O g D w) :
    Calls Try.prog 44 #[.pointer (some ⟨g, 0, none⟩)] w fun e w' => e = .returned (.bool (decide (D.act.2 = 0))) ∧ LandAt O g D.act.1 w' ∧ Only g w w' := by
  obtain ⟨bs, sc, bn, nc, cA, cc, cut, l, h1, hp, hre⟩ := h.opened
  obtain ⟨S, C, L, F, K⟩ := D
  simp only at hops h1
  have HRE := Lib.hid hre; clear hre h
  obtain ⟨p1, p2, p3⟩ := hp
  simp only at p3
  have c3 := h1.cell (i := 3) (by omega)
  rw [show landCells bs sc bn nc S.length cA C.length cc K cut l F 3 = .int .i64 (K : Int) from rfl] at c3
  have f3 := h1.frozen 3
  have r1 := h1.set 3 (.int .i64 ((K : Int) + 1))
  have d4 : (w.setCell ⟨g, 3, none⟩ (.int .i64 ((K : Int) + 1))).cell? ⟨g, 4, none⟩ = some (.bool cut) := (r1.cell (i := 4) (by omega)).trans rfl
  have d5 : (w.setCell ⟨g, 3, none⟩ (.int .i64 ((K : Int) + 1))).cell? ⟨g, 5, none⟩ = some (.int .i64 l) := (r1.cell (i := 5) (by omega)).trans rfl
  have d6 : (w.setCell ⟨g, 3, none⟩ (.int .i64 ((K : Int) + 1))).cell? ⟨g, 6, none⟩ = some (.bool F) := (r1.cell (i := 6) (by omega)).trans rfl
  have g5 := r1.frozen 5
  have g6 := r1.frozen 6
  have HR1 := Lib.hid r1; have HR := Lib.hid h1
  clear h1 r1
  rcases p3 with ⟨rfl, rfl, rfl⟩ | ⟨rfl, p3⟩
  · have e : Hid (DiskD.act ⟨S, C, -1, false, K⟩ = (⟨S, C, -1, false, K + 1⟩, 0)) := by show _ = _; rw [DiskD.act, if_neg (by simp)]; rfl
    rw [e.out]
    go_enter Try.func44, Try.ntmps44
    go_wp2
    go_ret
    refine ⟨rfl, HRE.out _ _ _ _ false l ((Only.refl g w).set 3 _) ((HR.out.set 3 _).congr fun i hi => ?_) ⟨p1, p2, .inl ⟨rfl, rfl, rfl⟩⟩, (Only.refl g w).set 3 _⟩
    rcases seven hi with rfl | rfl | rfl | rfl | rfl | rfl | rfl <;> rfl
  · have HP := Lib.hid p3; clear p3
    by_cases h0 : l = 0
    · subst h0
      have e : Hid (DiskD.act ⟨S, C, L, F, K⟩ = (⟨S, C, L, true, K + 1⟩, 7)) := by
        show _ = _
        rw [DiskD.act, if_pos]
        rcases HP.out with h | h
        · exact .inl h
        · exact .inr h.symm
      rw [e.out]
      have q6 : ((w.setCell ⟨g, 3, none⟩ (.int .i64 ((K : Int) + 1))).setCell ⟨g, 6, none⟩ (.bool true)).cell? ⟨g, 6, none⟩ = some (.bool true) := ((HR1.out.set 6 (.bool true)).cell (i := 6) (by omega)).trans rfl
      go_enter Try.func44, Try.ntmps44
      go_wp2
      go_ret
      refine ⟨rfl, HRE.out _ _ _ _ true 0 (((Only.refl g w).set 3 _).set 6 _) (((HR.out.set 3 _).set 6 _).congr fun i hi => ?_) ⟨p1, p2, .inr ⟨rfl, .inl rfl⟩⟩, ((Only.refl g w).set 3 _).set 6 _⟩
      rcases seven hi with rfl | rfl | rfl | rfl | rfl | rfl | rfl <;> rfl
    · have h0' : (l == 0) = false := beq_eq_false_iff_ne.2 h0
      have q6 : ((w.setCell ⟨g, 3, none⟩ (.int .i64 ((K : Int) + 1))).setCell ⟨g, 5, none⟩ (.int .i64 (l - 1))).cell? ⟨g, 6, none⟩ = some (.bool F) := ((HR1.out.set 5 (.int .i64 (l - 1))).cell (i := 6) (by omega)).trans rfl
      have HRW : Hid (((w.setCell ⟨g, 3, none⟩ (.int .i64 ((K : Int) + 1))).setCell ⟨g, 5, none⟩ (.int .i64 (l - 1))).rowIs g 70 7 (landCells bs sc bn nc S.length cA C.length cc (K + 1) true (l - 1) F)) :=
        ((HR.out.set 3 _).set 5 _).congr fun i hi => by rcases seven hi with rfl | rfl | rfl | rfl | rfl | rfl | rfl <;> rfl
      cases F with
      | true =>
        have e : Hid (DiskD.act ⟨S, C, L, true, K⟩ = (⟨S, C, L, true, K + 1⟩, 7)) := by show _ = _; rw [DiskD.act, if_pos (.inl rfl)]
        rw [e.out]
        go_enter Try.func44, Try.ntmps44
        go_wp2
        go_ret
        exact ⟨rfl, HRE.out _ _ _ _ true (l - 1) (((Only.refl g w).set 3 _).set 5 _) HRW.out ⟨by omega, by omega, .inr ⟨rfl, .inl rfl⟩⟩, ((Only.refl g w).set 3 _).set 5 _⟩
      | false =>
        have hL : l = L := by rcases HP.out with h | h; (cases h); (exact h)
        subst hL
        have e : Hid (DiskD.act ⟨S, C, l, false, K⟩ = (⟨S, C, l - 1, false, K + 1⟩, 0)) := by
          show _ = _
          rw [DiskD.act, if_neg (by simp [h0])]
          simp only [if_pos (show 0 < l by omega)]
        rw [e.out]
        go_enter Try.func44, Try.ntmps44
        go_wp2
        go_ret
        exact ⟨rfl, HRE.out _ _ _ _ true (l - 1) (((Only.refl g w).set 3 _).set 5 _) HRW.out ⟨by omega, by omega, .inr ⟨rfl, .inr rfl⟩⟩, ((Only.refl g w).set 3 _).set 5 _⟩

set_option maxRecDepth 100000 in
theorem landCut_any (O : Nat → Prop) (g : Nat) (D : DiskD) (n : Int) (hn : n ≤ 9223372036854775807) (w : World) (h : LandAt O g D w) :
    Calls Try.prog 16 #[.pointer (some ⟨g, 0, none⟩), .int .i64 n] w fun e w' => e = .returned (.tuple #[]) ∧ LandAt O g (D.cut n) w' ∧ Only g w w' := by
  obtain ⟨bs, sc, bn, nc, cA, cc, cut, l, h1, _, hre⟩ := h.opened
  have HRE := Lib.hid hre; have HR := Lib.hid h1
  clear hre h
  have c4 := h1.cell (i := 4) (by omega)
  rw [show landCells bs sc bn nc D.safe.length cA D.cache.length cc D.ops cut l D.off 4 = .bool cut from rfl] at c4
  have f4 := h1.frozen 4
  have r1 := h1.set 4 (.bool true)
  have d5 : (w.setCell ⟨g, 4, none⟩ (.bool true)).cell? ⟨g, 5, none⟩ = some (.int .i64 l) := (r1.cell (i := 5) (by omega)).trans rfl
  have g5 := r1.frozen 5
  clear h1 r1
  rcases Int.lt_or_le n 0 with hneg | hneg
  · have e : Hid (D.cut n = ⟨D.safe, D.cache, 0, D.off, D.ops⟩) := by show _ = _; rw [DiskD.cut, Int.max_eq_right (by omega)]
    rw [e.out]
    go_enter Try.func16, Try.ntmps16
    go_wp2
    go_end0
    refine ⟨rfl, HRE.out _ _ _ _ true 0 (((Only.refl g w).set 4 _).set 5 _) (((HR.out.set 4 _).set 5 _).congr fun i hi => ?_) ⟨by omega, by omega, .inr ⟨rfl, .inr rfl⟩⟩, ((Only.refl g w).set 4 _).set 5 _⟩
    rcases seven hi with rfl | rfl | rfl | rfl | rfl | rfl | rfl <;> rfl
  · have e : Hid (D.cut n = ⟨D.safe, D.cache, n, D.off, D.ops⟩) := by show _ = _; rw [DiskD.cut, Int.max_eq_left (by omega)]
    rw [e.out]
    go_enter Try.func16, Try.ntmps16
    go_wp2
    go_end0
    refine ⟨rfl, HRE.out _ _ _ _ true n (((Only.refl g w).set 4 _).set 5 _) (((HR.out.set 4 _).set 5 _).congr fun i hi => ?_) ⟨by omega, by omega, .inr ⟨rfl, .inr rfl⟩⟩, ((Only.refl g w).set 4 _).set 5 _⟩
    rcases seven hi with rfl | rfl | rfl | rfl | rfl | rfl | rfl <;> rfl

theorem landSectors_any (O : Nat → Prop) (g : Nat) (D : DiskD) (w : World) (h : LandAt O g D w) :
    Calls Try.prog 24 #[.pointer (some ⟨g, 0, none⟩)] w fun e w' => e = .returned (.int .i64 (D.safe.length : Int)) ∧ w = w' := by
  obtain ⟨bs, sc, bn, nc, cA, cc, cut, l, h1, _, _⟩ := h.opened
  have c1 : w.cell? ⟨g, 1, none⟩ = some (.slice (some ⟨bn, 0, none⟩) D.safe.length nc) := (h1.cell (i := 1) (by omega)).trans rfl
  clear h1 h
  go_enter Try.func24, Try.ntmps24
  go_wp2
  go_ret
  exact ⟨rfl, rfl⟩
theorem landHas_any (O : Nat → Prop) (g : Nat) (D : DiskD) (at_ : Int) (w : World) (h : LandAt O g D w) :
    Calls Try.prog 62 #[.pointer (some ⟨g, 0, none⟩), .int .i64 at_] w fun e w' => e = .returned (.bool (decide (0 ≤ at_ ∧ at_ < (D.safe.length : Int)))) ∧ w = w' := by
  have GS := Lib.hid (landSectors_any O g D w h)
  clear h
  by_cases h1 : 0 ≤ at_
  · have e : Hid (decide (0 ≤ at_ ∧ at_ < (D.safe.length : Int)) = decide (at_ < (D.safe.length : Int))) := by show _ = _; simp [h1]
    rw [e.out]
    go_enter Try.func62, Try.ntmps62
    go_wp2_with fail
    refine GS.out.mono ?_
    rintro e w' ⟨rfl, rfl⟩
    go_wp2
    go_ret
    exact ⟨rfl, rfl⟩
  · have e : Hid (decide (0 ≤ at_ ∧ at_ < (D.safe.length : Int)) = false) := by show _ = _; simp [h1]
    rw [e.out]
    go_enter Try.func62, Try.ntmps62
    go_wp2
    go_ret
    exact ⟨rfl, rfl⟩
/-! Of no disk. -/
theorem noneSectors (w : World) : Calls Try.prog 24 #[.pointer none] w fun e w' => e = .returned (.int .i64 0) ∧ w = w' := by
  go_enter Try.func24, Try.ntmps24
  go_wp2
  go_ret
  exact ⟨rfl, rfl⟩
theorem noneAct (w : World) : Calls Try.prog 44 #[.pointer none] w fun e w' => e = .returned (.bool false) ∧ w = w' := by
  go_enter Try.func44, Try.ntmps44
  go_wp2
  go_ret
  exact ⟨rfl, rfl⟩
theorem noneFlush (w : World) : Calls Try.prog 25 #[.pointer none] w fun e w' => e = .returned (.int .i64 7) ∧ w = w' := by
  go_enter Try.func25, Try.ntmps25
  go_wp2_with fail
  refine (noneAct _).mono ?_
  rintro e w' ⟨rfl, rfl⟩
  go_wp2
  go_ret
  exact ⟨rfl, rfl⟩
theorem noneRead (w : World) : Calls Try.prog 56 #[.pointer none, .int .i64 0] w fun e w' => e = .returned (.tuple #[.slice none 0 0, .int .i64 1]) ∧ w = w' := by
  go_enter Try.func56, Try.ntmps56
  go_wp2_with fail
  refine (show Calls Try.prog 62 #[.pointer none, .int .i64 0] w fun e w' => e = .returned (.bool false) ∧ w = w' from ?_).mono ?_
  · go_enter Try.func62, Try.ntmps62
    go_wp2_with fail
    refine (noneSectors _).mono ?_
    rintro e w' ⟨rfl, rfl⟩
    go_wp2
    go_ret
    exact ⟨rfl, rfl⟩
  rintro e w' ⟨rfl, rfl⟩
  go_wp2
  go_ret2
  exact ⟨rfl, rfl⟩
theorem noneCrash (A : Option Addr) (n c : Nat) (w : World) : Calls Try.prog 18 #[.pointer none, .slice A n c] w fun e w' => e = .returned (.pointer none) ∧ w = w' := by
  go_enter Try.func18, Try.ntmps18
  go_wp2
  go_ret
  exact ⟨rfl, rfl⟩
end Go.Proofs.Ytahfkcfbmklfpaa
