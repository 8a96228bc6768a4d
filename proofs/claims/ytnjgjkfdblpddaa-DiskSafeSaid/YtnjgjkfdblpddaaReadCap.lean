/- Read of the landed disk, with the slice's room; what lies behind the first byte that differs. No condition beyond those that each lemma states. -/
import Derived.Test.YtnjgjkfdblpddaaArr
namespace Go.Proofs.Ytnjgjkfdblpddaa
open Go.RowKit Go.Deep

theorem crash_len (D : DiskD) (l : List Int) : (D.crash l).safe.length = D.safe.length := by
  show (laidN _ _ _ _ _).length = _
  rw [laidN_length]
theorem drop_safe {N O X : List Nat} {t0 t : Nat} (hN : N.length = 64) (ht0 : t0 ≤ 64) (hX : X = N.take t0 ++ O.drop t0) (ht : t0 ≤ t) : X.drop t = O.drop t := by
  have h1 : (N.take t0).length = t0 := by rw [List.length_take]; omega
  rw [hX, List.drop_append, h1, List.drop_eq_nil_of_le (by omega), List.nil_append, List.drop_drop]
  congr 1
  omega
theorem at_least {N O X : List Nat} {t0 t : Nat} (hN : N.length = 64) (ht0 : t0 ≤ 64) (hX : X = N.take t0 ++ O.drop t0) (h : X[t]? ≠ N[t]? ∨ 64 ≤ t) : t0 ≤ t := by
  have h1 : (N.take t0).length = t0 := by rw [List.length_take]; omega
  by_cases hlt : t < t0
  · exfalso
    rcases h with h | h
    · apply h
      rw [hX, List.getElem?_append_left (by omega), List.getElem?_take_of_lt hlt]
    · omega
  · omega

set_option maxHeartbeats 1000000 in
set_option maxRecDepth 100000 in
theorem landRead64_any (O : Nat → Prop) (g : Nat) (D : DiskD) (q : Nat) (hq : q < D.safe.length) (w : World) (h : LandAt O g D w) :
    Calls Try.prog 19 #[.pointer (some ⟨g, 0, none⟩), .int .i64 (q : Int)] w fun e w' => e = .returned (.tuple #[.slice (some ⟨w.heap.size, 0, none⟩) 64 64, .int .i64 0]) ∧
      BytesAt w' (some ⟨w.heap.size, 0, none⟩) (secB (D.look q)) ∧ (secB (D.look q)).length = 64 ∧ Below w.heap.size w w' ∧ w.heap.size < w'.heap.size := by
  have GH := Lib.hid (landHas_any O g D (q : Int) w h)
  have hin : 0 ≤ (q : Int) ∧ (q : Int) < (D.safe.length : Int) := by omega
  obtain ⟨_, _, bs, sc, bn, nc, cA, cc, cut, l, _, _, _, _, _, _, _, h1, _, hn, _, _⟩ := h
  have c1 : w.cell? ⟨g, 1, none⟩ = some (.slice (some ⟨bn, 0, none⟩) D.safe.length nc) := (h1.cell (i := 1) (by omega)).trans rfl
  obtain ⟨h64, hra⟩ := hn.2.1 q _ (nowL_at D hq)
  clear h1 hn
  obtain ⟨X, HX⟩ : ∃ X, Hid (secB (D.look q) = X) := ⟨_, rfl⟩
  rw [HX.out] at h64 hra
  have HL := Lib.hid h64; have HRA := Lib.hid hra
  clear h64 hra
  obtain ⟨Z, hZs, hZ⟩ := zero_sector
  have HZ := Lib.hid hZ; have HZS := Lib.hid hZs; clear hZ hZs
  rw [decide_eq_true hin] at GH
  clear hin
  go_enter Try.func19, Try.ntmps19
  go_wp2_with fail
  refine GH.out.mono ?_
  rintro e w' ⟨rfl, rfl⟩
  go_wp2_with (first
    | (refine wpList_load_mid rfl 66 (.tmp 16) rfl bn (q * 64) rfl (u8s X) (.array 64 5) HRA.out Try.underlying66 rfl (by rw [size_sector, u8s_length, HL.out]) ?_)
    | (refine wpList_alloc_z rfl 66 rfl Z HZ.out ?_)
    | (refine wpList_store_row rfl 66 (.tmp 6) (.tmp 17) rfl w.heap.size (u8s X).toArray rfl rfl 66 Z.cells (heap_alloc_new w _) (by rw [size_sector, List.size_toArray, u8s_length, HL.out]) (by rw [HZS.out, List.size_toArray, u8s_length, HL.out]) (u8s_all X) ?_
       rw [World.setRow_alloc_new]))
  go_ret2
  refine ⟨rfl, ?_, by rw [HX.out]; exact HL.out, (Below.refl _ _).alloc (Nat.le_refl _) _, by simp⟩
  rw [HX.out]
  refine BytesAt.lit (fun j x hj => ?_) rfl
  rw [List.getElem?_toArray, u8s, List.getElem?_map, hj]
  rfl
theorem alone_read64 {base g : Nat} {D : DiskD} {w : World} (h : Alone base g D w) {q : Nat} (hq : q < D.safe.length) :
    Calls Try.prog 19 #[.pointer (some ⟨g, 0, none⟩), .int .i64 (q : Int)] w fun e w' => ∃ gb, w.heap.size = gb ∧ e = .returned (.tuple #[.slice (some ⟨gb, 0, none⟩) 64 64, .int .i64 0]) ∧
      BytesAt w' (some ⟨gb, 0, none⟩) (secB (D.look q)) ∧ (secB (D.look q)).length = 64 ∧ Below w.heap.size w w' ∧ gb < w'.heap.size := by
  obtain ⟨O, h1, h2⟩ := h
  refine (landRead64_any O g D q hq w h1).mono ?_
  rintro e w' ⟨rfl, h⟩
  exact ⟨_, rfl, rfl, h⟩
end Go.Proofs.Ytnjgjkfdblpddaa
