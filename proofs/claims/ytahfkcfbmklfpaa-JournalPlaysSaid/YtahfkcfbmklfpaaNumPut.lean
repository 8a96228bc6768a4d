/- The contract of num.Put: called with any int it answers that number's bytes ('nput'), in new memory, or none if it doesn't fit; what was there stays as it was. No condition. -/
import Derived.Test.YtahfkcfbmklfpaaNumSize
import Derived.Test.YtahfkcfbmklfpaaNumRel
import Derived.Deep.OwnRows
namespace Go.Proofs.Ytahfkcfbmklfpaa
open Go.RowKit Go.Deep

/-- What the loop of num.Put holds: q bytes from the last one on stand, the others are still 0. -/
def PutRel (n s : Nat) (w : World) (q : Nat) (wr : World) : Prop :=
  wr.rowIs w.heap.size 5 s (fun j => .int .u8 ((if s - 1 - j < q then nb n (s - 1 - j) else 0 : Nat) : Int)) ∧ Below w.heap.size w wr
theorem PutRel.start (n s : Nat) (w : World) (hs : 0 < s) (x : Int) (hx : x = ((n % 128 : Nat) : Int)) :
    PutRel n s w 1 (w.alloc (.cells ((madeCells #[Value.int .u8 0] s).setIfInBounds (s - 1) (.int .u8 x)) 5)) := by
  refine ⟨?_, (Below.refl _ _).alloc (Nat.le_refl _) _⟩
  have hz : ((madeCells #[Value.int .u8 0] s).setIfInBounds (s - 1) (.int .u8 x)).size = s := by simp [size_madeCells]
  have := World.rowIs_alloc w ((madeCells #[Value.int .u8 0] s).setIfInBounds (s - 1) (.int .u8 x)) 5 (fun j => .int .u8 ((if s - 1 - j < 1 then nb n (s - 1 - j) else 0 : Nat) : Int)) (by
    intro j hj
    rw [hz] at hj
    rw [Array.getElem?_setIfInBounds]
    by_cases e : s - 1 = j
    · subst e
      rw [if_pos rfl, if_pos (by rw [size_madeCells]; omega)]
      simp [nb_zero, hx]
    · rw [if_neg e, made_at s j hj, if_neg (by omega)]
      rfl)
  rw [hz] at this
  exact this
theorem PutRel.step {n s : Nat} {w wr : World} {q : Nat} (h : PutRel n s w q wr) (hq : 1 ≤ q) (r : Nat) (hr : q + r + 1 = s) (x : Int) (hx : x = ((nb n q : Nat) : Int)) :
    PutRel n s w (q + 1) (wr.setCell ⟨w.heap.size, r, none⟩ (.int .u8 x)) := by
  refine ⟨(h.1.set r (.int .u8 x)).congr fun j hj => ?_, h.2.setCell (Nat.le_refl _) _⟩
  by_cases e : j = r
  · subst e
    rw [if_pos rfl, if_pos (by omega), hx]
    congr 3
    omega
  · rw [if_neg e]
    by_cases h1 : s - 1 - j < q
    · rw [if_pos h1, if_pos (by omega)]
    · rw [if_neg h1, if_neg (by omega)]
theorem PutRel.done {n s : Nat} {w wr : World} (h : PutRel n s w s wr) (hs : nsz n = s) (h0 : 0 < s) (h6 : s ≤ 6) : NewBytes (nput n) w (.slice (some ⟨w.heap.size, 0, none⟩) s s) wr := by
  refine ⟨w.heap.size, s, by rw [nput_length, hs], ⟨by rw [nput_length, hs]; exact Nat.le_refl _, by simp only [maxLen]; omega⟩, Nat.le_refl _, h.1.lt, fun j x hx => ?_, h.2⟩
  have hj : j < s := by
    have := (List.getElem?_eq_some_iff.1 hx).1
    rwa [nput_length, hs] at this
  rw [nput, nt_at _ _ _ (by rw [hs]; omega), hs] at hx
  injection hx with hx
  rw [Nat.zero_add, h.1.cell hj, if_pos (by omega), hx]

theorem numPut_no (n : Int) (h : n < 0 ∨ 1099511627776 < n) (w : World) :
    Calls Try.prog 50 #[.int .i64 n] w fun e w' => e = .returned (.slice none 0 0) ∧ w = w' := by
  go_enter Try.func50, Try.ntmps50
  go_wp2_with (go_at_call 55; refine (numFits_no _ h _).mono ?_; rintro e w' ⟨rfl, rfl⟩)
  go_ret
  exact ⟨rfl, rfl⟩

set_option maxRecDepth 100000 in
theorem numPut_yes (n : Nat) (h1 : n ≤ 1099511627776) (w : World) :
    Calls Try.prog 50 #[.int .i64 n] w fun e w' => ∃ v, e = .returned v ∧ NewBytes (nput n) w v w' := by
  have s6 := nsz_le n
  have s0 := nsz_pos n
  obtain ⟨s, HS⟩ : ∃ s, Hid (nsz n = s) := ⟨_, rfl⟩
  rw [HS.out] at s6 s0
  have hmk := run_make_row' (P := Try.prog) 31 5 (.int .u8 0) 1 Try.underlying31 u8_info rfl .i64 .i64 s (by omega) (by omega)
  have eand := band127i n h1
  have hma := made_at s (s - 1) (by omega)
  have h1' := h1
  go_enter Try.func50, Try.ntmps50
  go_wp2_with (first
      | (go_at_call 55; refine (numFits_yes _ (by omega) (by omega) _).mono ?_; rintro e w' ⟨rfl, rfl⟩)
      | (go_at_call 58; refine (numSize_yes n h1' _).mono ?_; rintro e w' ⟨rfl, rfl⟩; rw [HS.out]))
  go_loopw [0, 5] (fun x i wr => ∃ q : Nat, 1 ≤ q ∧ q ≤ s ∧ x = .int .i64 ((n / 128 ^ (q - 1) : Nat) : Int) ∧ i = .int .i64 ((s : Int) - 1 - q) ∧ PutRel n s w q wr) (fun _ i _ => (intOf i + 1).toNat)
  case atStart => exact ⟨1, by omega, by omega, by simp, by congr 1, PutRel.start n s w s0 _ (by simp)⟩
  case round =>
    obtain ⟨q, hq1, hqs, rfl, rfl, HR⟩ := hrel
    clear eand hma hmk
    obtain ⟨X, HX⟩ : ∃ X, Hid (n / 128 ^ (q - 1) = X) := ⟨_, rfl⟩
    have hX : X ≤ 1099511627776 := by rw [← HX.out]; exact Nat.le_trans (Nat.div_le_self _ _) h1'
    rw [HX.out]
    by_cases hq : q = s
    · subst hq
      have e : ((q : Int) - 1 - q) = -1 := by omega
      rw [e]
      clear e
      have HD := HR.done HS.out s0 s6
      go_wp2
      go_ret
      exact ⟨_, rfl, HD⟩
    · obtain ⟨r, HRR⟩ : ∃ r, Hid (q + r + 1 = s) := ⟨s - 1 - q, by show q + (s - 1 - q) + 1 = s; omega⟩
      have hrs : r < s := by have := HRR.out; omega
      have e : ((s : Int) - 1 - q) = (r : Int) := by have := HRR.out; omega
      rw [e]
      clear e
      obtain ⟨Y, HY⟩ : ∃ Y, Hid (X / 128 = Y) := ⟨_, rfl⟩
      have hY : Y ≤ 1099511627776 := by rw [← HY.out]; omega
      have eY : ((X : Int) / 128) = (Y : Int) := by rw [← HY.out]; omega
      obtain ⟨m, HM⟩ : ∃ m, Hid (Y % 128 = m) := ⟨_, rfl⟩
      have hm : m < 128 := by rw [← HM.out]; omega
      have eand : bits BinOp.and IntKind.i64 (Y : Int) 127 = (m : Int) := by rw [← HM.out]; exact band127i Y hY
      have eor := bor128 m hm
      have hcell := HR.1.cell hrs
      have hfr := HR.1.frozen r
      have HB : Hid (nb n q = m + 128) := by
        obtain ⟨p, rfl⟩ : ∃ p, q = p + 1 := ⟨q - 1, by omega⟩
        show nb n (p + 1) = m + 128
        rw [nb_step, ← HM.out, ← HY.out, ← HX.out, Nat.add_sub_cancel]
      have HY' : Hid (n / 128 ^ (q + 1 - 1) = Y) := by
        obtain ⟨p, rfl⟩ : ∃ p, q = p + 1 := ⟨q - 1, by omega⟩
        show n / 128 ^ (p + 1 + 1 - 1) = Y
        rw [← HY.out, ← HX.out, Nat.add_sub_cancel, Nat.add_sub_cancel, div_pow_step]
      go_wp2
      go_roundw
      case rel => exact ⟨q + 1, by omega, by have := HRR.out; omega, by rw [HY'.out], by have := HRR.out; congr 1; omega, HR.step hq1 r HRR.out _ (by rw [HB.out]; omega)⟩
      case measure => simp [intOf]; try omega
end Go.Proofs.Ytahfkcfbmklfpaa
