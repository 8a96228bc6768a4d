/- The landed disk: the contracts of survives, there, torn; the picks that Crash takes. Condition: fewer than 2^20 writes in the cache. -/
import Derived.Test.YtahfkcfbmklfpaaDiskFlush
namespace Go.Proofs.Ytahfkcfbmklfpaa
open Go.RowKit Go.Deep

theorem survives_any (p : Int) (k : Nat) (hk : k ≤ 1048576) (w : World) : Calls Try.prog 40 #[.int .i64 p, .int .i64 (k : Int)] w fun e w' => e = .returned (.bool (bitAt p k)) ∧ w = w' := by
  cases hb : bitAt p k
  · have hbb : (bits BinOp.and IntKind.i64 (p / 2 ^ (k % 30)) 1 == 1) = false := by rw [band1]; exact hb
    clear hb
    go_enter Try.func40, Try.ntmps40
    go_wp2
    go_ret
    exact ⟨rfl, rfl⟩
  · have hbb : (bits BinOp.and IntKind.i64 (p / 2 ^ (k % 30)) 1 == 1) = true := by rw [band1]; exact hb
    clear hb
    go_enter Try.func40, Try.ntmps40
    go_wp2
    go_ret
    exact ⟨rfl, rfl⟩
theorem there_any (p : Int) (w : World) : Calls Try.prog 41 #[.int .i64 p] w fun e w' => e = .returned (.int .i64 ((rnd p 65 : Nat) : Int)) ∧ w = w' := by
  obtain ⟨hb1, hb2⟩ : -(65 : Int) < p.tmod 65 ∧ p.tmod 65 < 65 := tmod_bounds p 65 (by omega)
  have HE : Hid (p % (65 : Int) = if p.tmod 65 < 0 then p.tmod 65 + 65 else p.tmod 65) := emod_tmod p 65 (by omega)
  have HC : Hid (((rnd p 65 : Nat) : Int) = p % (65 : Int)) := rnd_cast p (n := 65) (by omega)
  by_cases hlt : p.tmod 65 < 0
  all_goals
    go_enter Try.func41, Try.ntmps41
    go_wp2
    go_ret
    first
      | exact ⟨by rw [HC.out, HE.out, if_pos hlt]; rfl, rfl⟩
      | exact ⟨by rw [HC.out, HE.out, if_neg (by omega)]; rfl, rfl⟩
/-- Which of n is torn, by a second pick. -/
def tornN (s : Int) (n : Nat) : Int := if 0 < n ∧ 0 < s then ((rnd s n : Nat) : Int) else -1
set_option maxHeartbeats 1000000 in
set_option maxRecDepth 100000 in
theorem torn_any (O : Nat → Prop) (g : Nat) (D : DiskD) (hc : D.cache.length ≤ 1048576) (p s : Int) (w : World) (h : LandAt O g D w) :
    Calls Try.prog 38 #[.pointer (some ⟨g, 0, none⟩), .int .i64 p, .int .i64 s] w fun e w' => e = .returned (.int .i64 (tornN s (keptN p D.cache D.cache.length).length)) ∧ w = w' := by
  obtain ⟨bs, sc, bn, nc, cA, cc, cut, l, h1, _, _⟩ := h.opened
  have c2 : w.cell? ⟨g, 2, none⟩ = some (.slice cA D.cache.length cc) := (h1.cell (i := 2) (by omega)).trans rfl
  clear h1 h
  go_enter Try.func38, Try.ntmps38
  go_wp2_with fail
  clear c2
  go_loopw [7, 14] (fun c i wr => wr = w ∧ ∃ k : Nat, k ≤ D.cache.length ∧ i = .int .i64 k ∧ c = .int .i64 ((keptN p D.cache k).length : Int)) (fun _ i _ => D.cache.length - (intOf i).toNat)
  case atStart => exact ⟨rfl, 0, Nat.zero_le _, rfl, by rw [keptN_zero]; rfl⟩
  case round =>
    obtain ⟨rfl, k, hk, rfl, rfl⟩ := hrel
    have HLE := Lib.hid (keptN_le p D.cache k)
    by_cases hlt : k < D.cache.length
    · obtain ⟨n, HN⟩ : ∃ n, Hid ((keptN p D.cache k).length = n) := ⟨_, Lib.hid rfl⟩
      rw [HN.out] at HLE ⊢
      have hle := HLE.out
      go_wp2_with fail
      refine (survives_any p k (by omega) wr).mono ?_
      rintro e w' ⟨rfl, rfl⟩
      cases hb : bitAt p k
      · have HX := Lib.hid (keptN_no (l := D.cache) hb)
        clear hb
        go_wp2
        go_roundw
        case rel => exact ⟨trivial, k + 1, by omega, by go_num, by rw [HX.out, HN.out]⟩
        case measure => simp [intOf]; omega
      · have HX := Lib.hid (keptN_yes hb hlt)
        clear hb
        go_wp2
        go_roundw
        case rel => exact ⟨trivial, k + 1, by omega, by go_num, by rw [HX.out, List.length_append, HN.out]; rfl⟩
        case measure => simp [intOf]; omega
    · obtain rfl : k = D.cache.length := by omega
      obtain ⟨n, HN⟩ : ∃ n, Hid ((keptN p D.cache D.cache.length).length = n) := ⟨_, Lib.hid rfl⟩
      rw [HN.out] at HLE ⊢
      have hle := HLE.out
      by_cases h0 : n = 0
      · have e : Hid (tornN s n = -1) := by show _ = _; rw [tornN, if_neg (by omega)]
        subst h0
        go_wp2
        go_ret
        exact ⟨by rw [HN.out, e.out]; rfl, rfl⟩
      · have h0' : ((n : Int) == 0) = false := beq_eq_false_iff_ne.2 (by omega)
        by_cases hs : s ≤ 0
        · have e : Hid (tornN s n = -1) := by show _ = _; rw [tornN, if_neg (by omega)]
          go_wp2
          go_ret
          exact ⟨by rw [HN.out, e.out]; rfl, rfl⟩
        · have e : Hid (tornN s n = s % n) := by
            show _ = _
            rw [tornN, if_pos (by omega), rnd_cast s (by omega)]
          obtain ⟨hb1, hb2⟩ := tmod_bounds s n (by omega)
          go_wp2
          go_ret
          exact ⟨by rw [HN.out, e.out]; rfl, rfl⟩
/-- A later beginning begins as an earlier one. -/
theorem keptN_more {α : Type} (p : Int) (l : List α) (k : Nat) : ∀ d, ∃ r, keptN p l (k + d) = keptN p l k ++ r
  | 0 => ⟨[], by simp⟩
  | d + 1 => by
    obtain ⟨r, hr⟩ := keptN_more p l k d
    rw [← Nat.add_assoc]
    cases hb : bitAt p (k + d)
    · exact ⟨r, by rw [keptN_no hb, hr]⟩
    · by_cases hk : k + d < l.length
      · exact ⟨r ++ [l[k + d]], by rw [keptN_yes hb hk, hr, List.append_assoc]⟩
      · refine ⟨r, ?_⟩
        have h1 := keptN_over p l (k + d) hk
        rw [h1, hr]
theorem kept_at {α : Type} {p : Int} {l : List α} {k : Nat} (hb : bitAt p k = true) (hk : k < l.length) : (keptN p l l.length)[(keptN p l k).length]? = some l[k] := by
  obtain ⟨r, hr⟩ := keptN_more p l (k + 1) (l.length - (k + 1))
  rw [show k + 1 + (l.length - (k + 1)) = l.length by omega, keptN_yes hb hk] at hr
  rw [hr, List.append_assoc, List.getElem?_append_right (Nat.le_refl _), Nat.sub_self]
  rfl
end Go.Proofs.Ytahfkcfbmklfpaa
