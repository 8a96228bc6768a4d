/- num.Put: its answer is a row of the call's own. No condition. -/
import Derived.Test.YtahfkcfbmklfpaaNumPut
namespace Go.Proofs.Ytahfkcfbmklfpaa
open Go.RowKit Go.Deep

theorem rowIs_own {w : World} {b n base : Nat} {t : TypeId} {f : Nat → Value} {xs : List Value} (h : w.rowIs b t n f) (hb : base ≤ b) (hn : n ≤ maxLen) (hl : xs.length = n) (hx : ∀ j, j < n → xs[j]? = some (f j)) : w.ownsRow base t 1 (.slice (some ⟨b, 0, none⟩) n n) n xs := by
  obtain ⟨c, hc, hs, hf⟩ := h
  refine ⟨by omega, .inr ⟨b, n, c, rfl, hb, hc, Nat.le_refl _, hn, by omega, ?_⟩⟩
  refine List.ext_getElem? fun j => ?_
  rw [List.getElem?_take]
  by_cases hj : j < n
  · rw [if_pos (by omega), Array.getElem?_toList, hf j hj, hx j hj]
  · rw [if_neg (by omega), List.getElem?_eq_none (by omega)]
theorem PutRel.own {n s : Nat} {w wr : World} (h : PutRel n s w s wr) (hs : nsz n = s) (h0 : 0 < s) (h6 : s ≤ 6) : wr.ownsRow w.heap.size 5 1 (.slice (some ⟨w.heap.size, 0, none⟩) s s) (nput n).length (u8s (nput n)) ∧ Below w.heap.size w wr := by
  have hl : (nput n).length = s := by rw [nput_length, hs]
  rw [hl]
  refine ⟨rowIs_own h.1 (Nat.le_refl _) (by simp only [maxLen]; omega) (by rw [u8s_length, hl]) fun j hj => ?_, h.2⟩
  rw [if_pos (by omega), u8s, List.getElem?_map]
  have hx : (nput n)[j]? = some (nb n (s - 1 - j)) := by rw [nput, nt_at _ _ _ (by rw [hs]; omega), hs]
  rw [hx]
  rfl

set_option maxRecDepth 100000 in
theorem numPut_own (n : Nat) (h1 : n ≤ 1099511627776) (w : World) :
    Calls Try.prog 50 #[.int .i64 n] w fun e w' => ∃ v, e = .returned v ∧ w'.ownsRow w.heap.size 5 1 v (nput n).length (u8s (nput n)) ∧ Below w.heap.size w w' := by
  have s6 := nsz_le n
  have s0 := nsz_pos n
  obtain ⟨s, HS⟩ : ∃ s, Hid (nsz n = s) := ⟨_, rfl⟩
  rw [HS.out] at s6 s0
  have hmk := run_make_row' (P := Try.prog) 31 5 (.int .u8 0) 1 Try.underlying31 u8_info rfl .i64 .i64 s (by omega) (by omega)
  have eand := band127i n h1
  have hma := made_at s (s - 1) (by omega)
  have h1' := h1
  go_enter Try.func50, Try.ntmps50
  go_wp2_with (first
      | (go_at_call 55; refine (numFits_yes _ (by omega) (by omega) _).mono ?_; rintro e w' ⟨rfl, rfl⟩)
      | (go_at_call 58; refine (numSize_yes n h1' _).mono ?_; rintro e w' ⟨rfl, rfl⟩; rw [HS.out]))
  go_loopw [0, 5] (fun x i wr => ∃ q : Nat, 1 ≤ q ∧ q ≤ s ∧ x = .int .i64 ((n / 128 ^ (q - 1) : Nat) : Int) ∧ i = .int .i64 ((s : Int) - 1 - q) ∧ PutRel n s w q wr) (fun _ i _ => (intOf i + 1).toNat)
  case atStart => exact ⟨1, by omega, by omega, by simp, by congr 1, PutRel.start n s w s0 _ (by simp)⟩
  case round =>
    obtain ⟨q, hq1, hqs, rfl, rfl, HR⟩ := hrel
    clear eand hma hmk
    obtain ⟨X, HX⟩ : ∃ X, Hid (n / 128 ^ (q - 1) = X) := ⟨_, rfl⟩
    have hX : X ≤ 1099511627776 := by rw [← HX.out]; exact Nat.le_trans (Nat.div_le_self _ _) h1'
    rw [HX.out]
    by_cases hq : q = s
    · subst hq
      have e : ((q : Int) - 1 - q) = -1 := by omega
      rw [e]
      clear e
      have HD := HR.own HS.out s0 s6
      go_wp2
      go_ret
      exact ⟨_, rfl, HD⟩
    · obtain ⟨r, HRR⟩ : ∃ r, Hid (q + r + 1 = s) := ⟨s - 1 - q, by show q + (s - 1 - q) + 1 = s; omega⟩
      have hrs : r < s := by have := HRR.out; omega
      have e : ((s : Int) - 1 - q) = (r : Int) := by have := HRR.out; omega
      rw [e]
      clear e
      obtain ⟨Y, HY⟩ : ∃ Y, Hid (X / 128 = Y) := ⟨_, rfl⟩
      have hY : Y ≤ 1099511627776 := by rw [← HY.out]; omega
      have eY : ((X : Int) / 128) = (Y : Int) := by rw [← HY.out]; omega
      obtain ⟨m, HM⟩ : ∃ m, Hid (Y % 128 = m) := ⟨_, rfl⟩
      have hm : m < 128 := by rw [← HM.out]; omega
      have eand : bits BinOp.and IntKind.i64 (Y : Int) 127 = (m : Int) := by rw [← HM.out]; exact band127i Y hY
      have eor := bor128 m hm
      have hcell := HR.1.cell hrs
      have hfr := HR.1.frozen r
      have HB : Hid (nb n q = m + 128) := by
        obtain ⟨p, rfl⟩ : ∃ p, q = p + 1 := ⟨q - 1, by omega⟩
        show nb n (p + 1) = m + 128
        rw [nb_step, ← HM.out, ← HY.out, ← HX.out, Nat.add_sub_cancel]
      have HY' : Hid (n / 128 ^ (q + 1 - 1) = Y) := by
        obtain ⟨p, rfl⟩ : ∃ p, q = p + 1 := ⟨q - 1, by omega⟩
        show n / 128 ^ (p + 1 + 1 - 1) = Y
        rw [← HY.out, ← HX.out, Nat.add_sub_cancel, Nat.add_sub_cancel, div_pow_step]
      go_wp2
      go_roundw
      case rel => exact ⟨q + 1, by omega, by have := HRR.out; omega, by rw [HY'.out], by have := HRR.out; congr 1; omega, HR.step hq1 r HRR.out _ (by rw [HB.out]; omega)⟩
      case measure => simp [intOf]; try omega
end Go.Proofs.Ytahfkcfbmklfpaa
