/- The contracts of crc.turn, crc.More, crc.Sum, crc.Same, and of the document's own sums. Condition: no slice is longer than memory. -/
import Derived.Test.YtahfkcfbmklfpaaLists
import Derived.Test.YtahfkcfbmklfpaaCrcMath
namespace Go.Proofs.Ytahfkcfbmklfpaa
open Go.RowKit Go.Deep

theorem band32 (a b : Nat) (ha : a < 4294967296) (hb : b < 4294967296) : bits BinOp.and IntKind.u32 (a : Int) (b : Int) = ((a &&& b : Nat) : Int) := by
  have h1 : (BitVec.ofInt 32 (a : Int)).toNat = a := by rw [BitVec.ofInt_natCast, BitVec.toNat_ofNat]; omega
  have h2 : (BitVec.ofInt 32 (b : Int)).toNat = b := by rw [BitVec.ofInt_natCast, BitVec.toNat_ofNat]; omega
  show IntKind.u32.wrap ((BitVec.ofInt 32 (a : Int) &&& BitVec.ofInt 32 (b : Int)).toNat : Int) = _
  have h3 : a &&& b < 4294967296 := Nat.and_lt_two_pow (n := 32) _ hb
  rw [BitVec.toNat_and, h1, h2]
  generalize a &&& b = x at h3
  unfold IntKind.wrap
  simp [IntKind.bits, IntKind.signed]
  omega
theorem bxor32 (a b : Nat) (ha : a < 4294967296) (hb : b < 4294967296) : bits BinOp.xor IntKind.u32 (a : Int) (b : Int) = ((a ^^^ b : Nat) : Int) := by
  have h1 : (BitVec.ofInt 32 (a : Int)).toNat = a := by rw [BitVec.ofInt_natCast, BitVec.toNat_ofNat]; omega
  have h2 : (BitVec.ofInt 32 (b : Int)).toNat = b := by rw [BitVec.ofInt_natCast, BitVec.toNat_ofNat]; omega
  show IntKind.u32.wrap ((BitVec.ofInt 32 (a : Int) ^^^ BitVec.ofInt 32 (b : Int)).toNat : Int) = _
  have h3 : a ^^^ b < 4294967296 := xor_lt ha hb
  rw [BitVec.toNat_xor, h1, h2]
  generalize a ^^^ b = x at h3
  unfold IntKind.wrap
  simp [IntKind.bits, IntKind.signed]
  omega
theorem and_one32 (r : Nat) (h : r < 4294967296) : bits BinOp.and IntKind.u32 (r : Int) 1 = ((r % 2 : Nat) : Int) := by
  have := band32 r 1 h (by omega)
  rw [Nat.and_one_is_mod] at this
  exact this
theorem turn_bits (r : Nat) (h : r < 4294967296) : bits BinOp.xor IntKind.u32 (r / 2 : Int) (bits BinOp.and IntKind.u32 3988292384 (-bits BinOp.and IntKind.u32 (r : Int) 1 % 4294967296)) = ((tn r : Nat) : Int) := by
  rw [and_one32 r h]
  have e : ((r : Int) / 2) = ((r / 2 : Nat) : Int) := by omega
  rw [e]
  rcases Nat.mod_two_eq_zero_or_one r with h2 | h2
  · rw [h2, show bits BinOp.and IntKind.u32 3988292384 (-((0 : Nat) : Int) % 4294967296) = ((0 : Nat) : Int) by decide, bxor32 _ _ (by omega) (by omega), tn_def, if_neg (by omega)]
  · rw [h2, show bits BinOp.and IntKind.u32 3988292384 (-((1 : Nat) : Int) % 4294967296) = ((3988292384 : Nat) : Int) by decide, bxor32 _ _ (by omega) (by omega), tn_def, if_pos h2]

theorem crcTurn_any (r : Nat) (h : r < 4294967296) (w : World) :
    Calls Try.prog 64 #[.int .u32 (r : Int)] w fun e w' => e = .returned (.int .u32 ((tn r : Nat) : Int)) ∧ w = w' := by
  have HT := Lib.hid (turn_bits r h)
  go_enter Try.func64, Try.ntmps64
  go_wp2
  rw [HT.out]
  go_ret
  exact ⟨rfl, rfl⟩

theorem inv32 (s : Nat) (h : s < 4294967296) : bits BinOp.xor IntKind.u32 IntKind.u32.max (s : Int) = ((inv s : Nat) : Int) := by
  show bits BinOp.xor IntKind.u32 ((4294967295 : Nat) : Int) (s : Int) = _
  rw [bxor32 _ _ (by omega) h, inv_def]
  congr 1
  have h1 : (BitVec.allOnes 32 ^^^ BitVec.ofNat 32 s).toNat = (~~~ BitVec.ofNat 32 s).toNat := by rw [BitVec.allOnes_xor]
  rw [BitVec.toNat_not, BitVec.toNat_xor, BitVec.toNat_ofNat, Nat.mod_eq_of_lt (by omega)] at h1
  exact h1
set_option maxRecDepth 100000 in
theorem crcMore_row (s : Nat) (hs : s < 4294967296) (b off cap : Nat) (l : List Nat) (hl : l.length ≤ maxLen) (hb : ∀ x ∈ l, x < 256) (w : World) (hc : BytesAt w (some ⟨b, off, none⟩) l) :
    Calls Try.prog 59 #[.int .u32 (s : Int), .slice (some ⟨b, off, none⟩) l.length cap] w fun e w' => e = .returned (.int .u32 ((ms s l : Nat) : Int)) ∧ w = w' := by
  unfold maxLen at hl
  have HC := Lib.hid hc; clear hc
  have HB := Lib.hid hb; clear hb
  have HS := Lib.hid hs; clear hs
  have HI := Lib.hid (inv32 s HS.out)
  go_enter Try.func59, Try.ntmps59
  go_wp2
  rw [HI.out]
  go_loop [5, 12] (fun t i => ∃ k : Nat, k ≤ l.length ∧ i = .int .i64 k ∧ t = .int .u32 ((mr (inv s) (l.take k) : Nat) : Int)) (fun _ i => l.length - (intOf i).toNat)
  case atStart => exact ⟨0, Nat.zero_le _, rfl, by simp [mr_nil]⟩
  case round =>
    obtain ⟨k, hk, rfl, rfl⟩ := hrel
    obtain ⟨r, HR⟩ : ∃ r, Hid (mr (inv s) (l.take k) = r) := ⟨_, rfl⟩
    have HRL : Hid (r < 4294967296) := by show r < 4294967296; rw [← HR.out]; exact mr_lt _ (inv_lt s) (fun x hx => HB.out x (List.mem_of_mem_take hx))
    rw [HR.out]
    by_cases hlt : k < l.length
    · have hcell := HC.out.cell hlt
      obtain ⟨c, HCC⟩ : ∃ c, Hid (l[k] = c) := ⟨l[k], Lib.hid rfl⟩
      rw [HCC.out] at hcell
      have hc256 : c < 256 := by rw [← HCC.out]; exact HB.out _ (List.getElem_mem hlt)
      have hx := bxor32 r c HRL.out (by omega)
      obtain ⟨x, HX⟩ : ∃ x, Hid (r ^^^ c = x) := ⟨_, rfl⟩
      have HXL : Hid (x < 4294967296) := by show x < 4294967296; rw [← HX.out]; exact xor_lt HRL.out (by omega)
      rw [HX.out] at hx
      go_wp2
      go_loop [5, 20] (fun t i => ∃ q : Nat, q ≤ 8 ∧ i = .int .i64 q ∧ t = .int .u32 ((tnk q x : Nat) : Int)) (fun _ i => 8 - (intOf i).toNat)
      case atStart => exact ⟨0, Nat.zero_le _, rfl, by rw [tnk_start]⟩
      case round =>
        obtain ⟨q, hq, rfl, rfl⟩ := hrel
        obtain ⟨y, HY⟩ : ∃ y, Hid (tnk q x = y) := ⟨_, rfl⟩
        have HYL : Hid (y < 4294967296) := by show y < 4294967296; rw [← HY.out]; exact tnk_lt q HXL.out
        rw [HY.out]
        by_cases hq8 : q < 8
        · go_wp2_with (go_at_call 64; refine (crcTurn_any _ HYL.out _).mono ?_; rintro e w' ⟨rfl, rfl⟩)
          go_round
          case rel => exact ⟨q + 1, by omega, by go_num, by rw [tnk_snoc, HY.out]⟩
          case measure => simp [intOf]; omega
        · have HN : Hid (mr (inv s) (l.take (k + 1)) = y) := by
            show mr (inv s) (l.take (k + 1)) = y
            rw [mr_take _ _ _ hlt, HR.out, HCC.out, bt_def, HX.out, ← HY.out, show q = 8 by omega]
          go_wp2
          go_round
          case rel => exact ⟨k + 1, by omega, by go_num, by rw [HN.out]⟩
          case measure => simp [intOf]; omega
    · have HI' := Lib.hid (inv32 r HRL.out)
      have HE : Hid (inv r = ms s l) := by
        show inv r = ms s l
        rw [← HR.out, List.take_of_length_le (by omega), ms_def]
      go_wp2
      rw [HI'.out]
      go_ret
      exact ⟨by rw [HE.out]; rfl, rfl⟩

theorem crcMore_nil (s : Nat) (hs : s < 4294967296) (A : Option Addr) (cap : Nat) (w : World) :
    Calls Try.prog 59 #[.int .u32 (s : Int), .slice A 0 cap] w fun e w' => e = .returned (.int .u32 ((ms s [] : Nat) : Int)) ∧ w = w' := by
  have HI := Lib.hid (inv32 s hs)
  have HI2 := Lib.hid (inv32 (inv s) (inv_lt s))
  have HE := Lib.hid (ms_def s [])
  rw [mr_nil] at HE
  go_enter Try.func59, Try.ntmps59
  go_wp2
  refine wp_loop_rounds 1 ?_
  rw [rounds_succ]
  go_wp2
  rw [HI.out, HI2.out]
  go_ret
  exact ⟨by rw [HE.out]; rfl, rfl⟩
theorem crcMore_at {A : Option Addr} {l : List Nat} (s : Nat) (hs : s < 4294967296) (cap : Nat) (hl : l.length ≤ maxLen) (hb : ∀ x ∈ l, x < 256) (w : World) (h : BytesAt w A l) :
    Calls Try.prog 59 #[.int .u32 (s : Int), .slice A l.length cap] w fun e w' => e = .returned (.int .u32 ((ms s l : Nat) : Int)) ∧ w = w' := by
  cases l with
  | nil => exact crcMore_nil s hs A cap w
  | cons c l =>
    obtain ⟨b, off, rfl, _⟩ := h.form (by simp)
    exact crcMore_row s hs b off cap _ hl hb w h

/-! ### The document's own -/
theorem ref_odd (y : Nat) (h : y < 4294967296) (h1 : y % 2 = 1) : bits BinOp.xor IntKind.u32 ((y : Int) / 2) 3988292384 = ((tn y : Nat) : Int) := by
  rw [show ((y : Int) / 2) = ((y / 2 : Nat) : Int) by omega]
  show bits BinOp.xor IntKind.u32 ((y / 2 : Nat) : Int) ((3988292384 : Nat) : Int) = _
  rw [bxor32 _ _ (by omega) (by omega), tn_def, if_pos h1]
theorem ref_even (y : Nat) (h1 : ¬ y % 2 = 1) : y / 2 = tn y := by rw [tn_def, if_neg h1, Nat.xor_zero]

/-! ### crc.Sum -/
set_option maxRecDepth 100000 in
theorem crcSum_row (b off cap : Nat) (L : List (Option Addr × Nat × List Nat)) (hl : L.length ≤ maxLen) (hf : Fine L) (w : World) (hc : RowsAt w (some ⟨b, off, none⟩) L) :
    Calls Try.prog 51 #[.slice (some ⟨b, off, none⟩) L.length cap] w fun e w' => e = .returned (.int .u32 ((sm (flat L) : Nat) : Int)) ∧ w = w' := by
  unfold maxLen at hl
  have HC := Lib.hid hc; clear hc
  have HF := Lib.hid hf; clear hf
  go_enter Try.func51, Try.ntmps51
  go_wp2
  go_loop [3, 8] (fun t i => ∃ k : Nat, k ≤ L.length ∧ i = .int .i64 k ∧ t = .int .u32 ((sm (flat (L.take k)) : Nat) : Int)) (fun _ i => L.length - (intOf i).toNat)
  case atStart => exact ⟨0, Nat.zero_le _, rfl, by rw [List.take_zero, flat_nil, sm_nil]; rfl⟩
  case round =>
    obtain ⟨k, hk, rfl, rfl⟩ := hrel
    obtain ⟨r, HR⟩ : ∃ r, Hid (sm (flat (L.take k)) = r) := ⟨_, rfl⟩
    have HRL : Hid (r < 4294967296) := by show r < 4294967296; rw [← HR.out]; exact sm_lt _
    rw [HR.out]
    by_cases hlt : k < L.length
    · have hcell := (HC.out.cell hlt).1
      have HAT := Lib.hid (HC.out.cell hlt).2
      have HFF := Lib.hid (HF.out _ (List.getElem_mem hlt))
      have HN : Hid (sm (flat (L.take (k + 1))) = ms r L[k].2.2) := by
        show sm (flat (L.take (k + 1))) = ms r L[k].2.2
        rw [flat_take _ _ hlt, sm_append _ _ ((HF.out.take k).flat), HR.out]
      obtain ⟨x, HX⟩ : ∃ x, Hid (L[k] = x) := ⟨L[k], Lib.hid rfl⟩
      rw [HX.out] at hcell HAT HFF HN
      obtain ⟨A, c, l⟩ := x
      simp only at hcell HAT HFF HN
      go_wp2_with (go_at_call 59; refine (crcMore_at _ HRL.out _ HFF.out.1 HFF.out.2 _ HAT.out).mono ?_; rintro e w' ⟨rfl, rfl⟩)
      go_round
      case rel => exact ⟨k + 1, by omega, by go_num, by rw [HN.out]⟩
      case measure => simp [intOf]; omega
    · have HE : Hid (r = sm (flat L)) := by
        show r = sm (flat L)
        rw [← HR.out, List.take_of_length_le (by omega)]
      go_wp2
      go_ret
      exact ⟨by rw [← HE.out]; rfl, rfl⟩
theorem crcSum_nil (A : Option Addr) (cap : Nat) (w : World) :
    Calls Try.prog 51 #[.slice A 0 cap] w fun e w' => e = .returned (.int .u32 ((sm [] : Nat) : Int)) ∧ w = w' := by
  go_enter Try.func51, Try.ntmps51
  go_wp2
  refine wp_loop_rounds 1 ?_
  rw [rounds_succ]
  go_wp2
  go_ret
  exact ⟨by rw [sm_nil]; rfl, rfl⟩
theorem crcSum_at {A : Option Addr} {L : List (Option Addr × Nat × List Nat)} (cap : Nat) (hl : L.length ≤ maxLen) (hf : Fine L) (w : World) (h : RowsAt w A L) :
    Calls Try.prog 51 #[.slice A L.length cap] w fun e w' => e = .returned (.int .u32 ((sm (flat L) : Nat) : Int)) ∧ w = w' := by
  cases L with
  | nil => exact crcSum_nil A cap w
  | cons c L =>
    obtain ⟨b, off, rfl, _⟩ := h.form (by simp)
    exact crcSum_row b off cap _ hl hf w h
theorem crcSum_one {A : Option Addr} {l : List Nat} (c cap : Nat) (hl : l.length ≤ maxLen) (hb : ∀ x ∈ l, x < 256) (w : World) (h : BytesAt w A l) (t : TypeId) (g : Nat) (hg : g = w.heap.size) :
    Calls Try.prog 51 #[.slice (some ⟨g, 0, none⟩) 1 cap] (w.alloc (.cells #[.slice A l.length c] t)) fun e w' => e = .returned (.int .u32 ((sm l : Nat) : Int)) ∧ w.alloc (.cells #[.slice A l.length c] t) = w' := by
  subst hg
  have := crcSum_row w.heap.size 0 cap _ (by simp [maxLen]) (fine_one hl hb) _ (rows_one (c := c) h t)
  rw [lflat_one] at this
  exact this
theorem crcSum_two {A B : Option Addr} {l m : List Nat} (c d cap : Nat) (hl : l.length ≤ maxLen) (hb : ∀ x ∈ l, x < 256) (hl2 : m.length ≤ maxLen) (hb2 : ∀ x ∈ m, x < 256) (w : World) (h : BytesAt w A l) (h2 : BytesAt w B m) (t : TypeId) (g : Nat) (hg : g = w.heap.size) :
    Calls Try.prog 51 #[.slice (some ⟨g, 0, none⟩) 2 cap] (w.alloc (.cells #[.slice A l.length c, .slice B m.length d] t)) fun e w' => e = .returned (.int .u32 ((sm (l ++ m) : Nat) : Int)) ∧ w.alloc (.cells #[.slice A l.length c, .slice B m.length d] t) = w' := by
  subst hg
  have := crcSum_row w.heap.size 0 cap _ (by simp [maxLen]) (fine_two hl hb hl2 hb2) _ (rows_two (c := c) (d := d) h h2 t)
  rw [flat_two] at this
  exact this

theorem crcSame_at {A : Option Addr} {l : List Nat} (s : Nat) (cap : Nat) (hl : l.length ≤ maxLen) (hb : ∀ x ∈ l, x < 256) (w : World) (h : BytesAt w A l) :
    Calls Try.prog 54 #[.int .u32 (s : Int), .slice A l.length cap] w fun e w' => e = .returned (.bool (decide (s = sm l))) ∧ Below w.heap.size w w' := by
  have HC := Lib.hid (crcSum_one cap 1 hl hb w h 31 w.heap.size rfl)
  have HD : Hid ((((s : Nat) : Int) == ((sm l : Nat) : Int)) = decide (s = sm l)) := by
    show (((s : Nat) : Int) == ((sm l : Nat) : Int)) = decide (s = sm l)
    rw [Bool.eq_iff_iff]
    simp
    omega
  clear hb h
  go_enter Try.func54, Try.ntmps54
  go_wp2_with (go_at_call 51; refine HC.out.mono ?_; rintro e w' ⟨rfl, rfl⟩)
  go_ret
  exact ⟨by rw [← HD.out]; rfl, (Below.refl _ _).alloc (Nat.le_refl _) _⟩
end Go.Proofs.Ytahfkcfbmklfpaa
