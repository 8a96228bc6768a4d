/- The contracts of the document's own Offset, Slice (over texts, within), and Text (over any ints). Condition: no more than 2^40 bytes; no more than 2^30 ints. -/
import Derived.Test.YtdkddehapddgmaaRefUtf
namespace Go.Proofs.Ytdkddehapddgmaa
open Go.RowKit Go.Deep

set_option maxRecDepth 100000 in
theorem refOffset_yes {l vs : List Nat} (h : V l vs) (hl : l.length ≤ 1099511627776) (n : Nat) (hn : n ≤ vs.length) (w : World) :
    Calls Try.prog 16 #[.string (bstr l), .int .i64 (n : Int)] w fun e w' => e = .returned (.int .i64 (((E (vs.take n)).length : Nat) : Int)) ∧ w = w' := by
  have HP := Lib.hid (fun i hi w => refPoint_any l (by rw [← h.bytes]; exact E_lt h.may) hl i hi w)
  have hsz := bstr_size l
  have HL : Hid (vs.length ≤ 1099511627776) := by show vs.length ≤ _; have := h.length_le; omega
  have hl2 := HL.out
  have H := Lib.hid h; clear h
  go_enter Try.func16, Try.ntmps16
  go_wp2
  go_loopw [1, 5] (fun m at_ wr => ∃ j i : Nat, j ≤ n ∧ i = (E (vs.take j)).length ∧ m = .int .i64 ((n - j : Nat) : Int) ∧ at_ = .int .i64 (i : Int) ∧ wr = w) (fun m _ _ => (intOf m).toNat)
  case atStart => exact ⟨0, 0, Nat.zero_le _, by rw [List.take_zero, E_nil]; rfl, rfl, rfl, rfl⟩
  case round =>
    obtain ⟨j, i, hj, hi, rfl, rfl, rfl⟩ := hrel
    have HI := Lib.hid hi; clear hi
    obtain ⟨m, HM⟩ : ∃ m, Hid (m = n - j) := ⟨_, rfl⟩
    rw [← HM.out]
    have hmn : m ≤ n := by rw [HM.out]; omega
    by_cases hlt : j < n
    · have hjv : j < vs.length := by omega
      obtain ⟨v, HV⟩ : ∃ v, Hid (v = vs[j]) := ⟨vs[j], Lib.hid rfl⟩
      have HMAY : Hid (May v) := by show May v; rw [HV.out]; exact H.out.may _ (List.getElem_mem hjv)
      have HT : Hid (vs.take (j + 1) = vs.take j ++ [v]) := by show _ = _; rw [List.take_succ_eq_append_getElem hjv, HV.out]
      have HL2 : Hid (l = E (vs.take j) ++ (enc v ++ E (vs.drop (j + 1)))) := by
        show l = _
        rw [← List.append_assoc, ← E_snoc, ← HT.out, ← E_append, List.take_append_drop, H.out.bytes]
      have HDR : Hid (l.drop i = enc v ++ E (vs.drop (j + 1))) := by show _ = _; rw [HI.out, HL2.out, List.drop_left' rfl]
      have hp := enc_pos v
      have hle := enc_le v
      obtain ⟨q, HQ⟩ : ∃ q, Hid (q = (enc v).length) := ⟨_, rfl⟩
      have HIL : Hid (i + q ≤ l.length) := by
        show i + q ≤ l.length
        have h1 := congrArg List.length HL2.out
        rw [List.length_append, List.length_append, ← HI.out, ← HQ.out] at h1
        omega
      have hil := HIL.out
      rw [← HQ.out] at hp hle
      have hi2 : i < l.length := by omega
      have hm1 : 0 < m := by rw [HM.out]; omega
      have HP1 := Lib.hid (fun w => HP.out i hi2 w)
      rw [HDR.out] at HP1
      have HST := Lib.hid (st_enc HMAY.out (E (vs.drop (j + 1))))
      have hmax : max (q : Int) 1 = (q : Int) := by omega
      go_wp2_with fail
      refine (HP1.out _).mono ?_
      rintro e w1 ⟨⟨v', t, hst, rfl⟩ | ⟨hst, _⟩, rfl⟩
      · rw [HST.out] at hst
        injection hst with hst
        injection hst with h1 h2
        subst h1
        clear h2
        rw [← HQ.out]
        go_wp2
        go_roundw
        case rel => exact ⟨j + 1, i + q, by omega, by rw [HT.out, E_snoc, List.length_append, ← HI.out, ← HQ.out], by congr 1; have := HM.out; omega, by go_num, trivial⟩
        case measure => simp [intOf]; omega
      · rw [HST.out] at hst
        cases hst
    · have hm0 : m = 0 := by rw [HM.out]; omega
      have hjn : j = n := by omega
      subst hjn
      subst hm0
      go_wp2
      go_ret
      exact ⟨by rw [← HI.out]; rfl, rfl⟩

theorem refSlice_yes {l vs : List Nat} (h : V l vs) (hl : l.length ≤ 1099511627776) (a b : Nat) (hab : a ≤ b) (hb : b ≤ vs.length) (w : World) :
    Calls Try.prog 15 #[.string (bstr l), .int .i64 (a : Int), .int .i64 (b : Int)] w fun e w' => e = .returned (.string (bstr (E ((vs.take b).drop a)))) ∧ w = w' := by
  have G1 := Lib.hid (fun w => refOffset_yes h hl a (by omega) w)
  have G2 := Lib.hid (fun w => refOffset_yes h hl b hb w)
  have h1 : (E (vs.take a)).length ≤ (E (vs.take b)).length := E_len_take vs a b hab
  have h2 : (E (vs.take b)).length ≤ l.length := by
    have := E_len_take vs b vs.length hb
    rw [List.take_length, h.bytes] at this
    exact this
  have hs := slice_bstr l _ _ h1 h2
  rw [← h.bytes, E_piece vs a b hab, h.bytes] at hs
  obtain ⟨p, HP⟩ : ∃ p, Hid ((E (vs.take a)).length = p) := ⟨_, rfl⟩
  obtain ⟨q, HQ⟩ : ∃ q, Hid ((E (vs.take b)).length = q) := ⟨_, rfl⟩
  rw [HP.out] at G1 hs h1
  rw [HQ.out] at G2 hs h2 h1
  clear h
  go_enter Try.func15, Try.ntmps15
  go_wp2_with fail
  refine (G1.out _).mono ?_
  rintro e w1 ⟨rfl, rfl⟩
  go_wp2_with fail
  refine (G2.out _).mono ?_
  rintro e w1 ⟨rfl, rfl⟩
  go_wp2
  go_ret
  exact ⟨rfl, rfl⟩

/-! ### Text -/
theorem band64w (c j : Nat) (hc : c < 4294967296) (hj : j ≤ 8) : bits BinOp.and IntKind.i64 (c : Int) ((2 ^ j - 1 : Nat) : Int) = ((c % 2 ^ j : Nat) : Int) := by
  have h1 : (BitVec.ofInt 64 (c : Int)).toNat = c := by rw [BitVec.ofInt_natCast, BitVec.toNat_ofNat]; omega
  have hp : 2 ^ j ≤ 2 ^ 8 := Nat.pow_le_pow_right (by omega) hj
  have h2 : (BitVec.ofInt 64 ((2 ^ j - 1 : Nat) : Int)).toNat = 2 ^ j - 1 := by rw [BitVec.ofInt_natCast, BitVec.toNat_ofNat, Nat.mod_eq_of_lt (by omega)]
  show IntKind.i64.wrap ((BitVec.ofInt 64 (c : Int) &&& BitVec.ofInt 64 ((2 ^ j - 1 : Nat) : Int)).toNat : Int) = _
  rw [BitVec.toNat_and, h1, h2, Nat.and_two_pow_sub_one_eq_mod, IntKind.wrap_i64]
  have h3 : c % 2 ^ j ≤ c := Nat.mod_le _ _
  omega
theorem bor_add (q j m : Nat) (hm : m < 2 ^ j) (hq : q * 2 ^ j ≤ 255) (hj : j ≤ 8) : bits BinOp.or IntKind.i64 ((q * 2 ^ j : Nat) : Int) (m : Int) = ((q * 2 ^ j + m : Nat) : Int) := by
  have hp : 2 ^ j ≤ 2 ^ 8 := Nat.pow_le_pow_right (by omega) hj
  have h1 : (BitVec.ofInt 64 ((q * 2 ^ j : Nat) : Int)).toNat = q * 2 ^ j := by rw [BitVec.ofInt_natCast, BitVec.toNat_ofNat]; omega
  have h2 : (BitVec.ofInt 64 (m : Int)).toNat = m := by rw [BitVec.ofInt_natCast, BitVec.toNat_ofNat]; omega
  show IntKind.i64.wrap ((BitVec.ofInt 64 ((q * 2 ^ j : Nat) : Int) ||| BitVec.ofInt 64 (m : Int)).toNat : Int) = _
  rw [BitVec.toNat_or, h1, h2, ← Nat.shiftLeft_eq, ← Nat.shiftLeft_add_eq_or_of_lt hm, Nat.shiftLeft_eq, IntKind.wrap_i64]
  omega
theorem or128 (m : Nat) (h : m < 64) : bits BinOp.or IntKind.i64 128 (m : Int) = ((128 + m : Nat) : Int) := bor_add 2 6 m h (by omega) (by omega)
theorem or192 (m : Nat) (h : m < 32) : bits BinOp.or IntKind.i64 192 (m : Int) = ((192 + m : Nat) : Int) := bor_add 6 5 m h (by omega) (by omega)
theorem or224 (m : Nat) (h : m < 16) : bits BinOp.or IntKind.i64 224 (m : Int) = ((224 + m : Nat) : Int) := bor_add 14 4 m h (by omega) (by omega)
theorem or240 (m : Nat) (h : m < 8) : bits BinOp.or IntKind.i64 240 (m : Int) = ((240 + m : Nat) : Int) := bor_add 30 3 m h (by omega) (by omega)
theorem and63 (c : Nat) (h : c < 4294967296) : bits BinOp.and IntKind.i64 (c : Int) 63 = ((c % 64 : Nat) : Int) := band64w c 6 h (by omega)

set_option maxHeartbeats 1000000 in
set_option maxRecDepth 100000 in
theorem refText_any {A : Option Addr} {l : List Int} (c : Nat) (hl : l.length ≤ 1073741824) (w : World) (hA : IntsAt w A l) :
    Calls Try.prog 18 #[.slice A l.length c] w fun e w' =>
      ((∃ vs, VZ l vs ∧ e = .returned (.tuple #[.string (bstr (E vs)), .bool true])) ∨ ((¬ ∃ vs, VZ l vs) ∧ e = .returned (.tuple #[.string (bstr []), .bool false]))) ∧ Below w.heap.size w w' := by
  have HA := Lib.hid hA; clear hA
  go_enter Try.func18, Try.ntmps18
  go_wp2
  go_loopw [4, 5] (fun v i wr => ∃ k : Nat, k ≤ l.length ∧ i = .int .i64 k ∧ TextRel w l k v wr) (fun _ i _ => l.length - (intOf i).toNat)
  case atStart => exact ⟨0, Nat.zero_le _, rfl, TextRel.start w l⟩
  case round =>
    obtain ⟨k, hk, rfl, vs, hvs, hown, hbel⟩ := hrel
    have HOWN := Lib.hid hown; clear hown
    have HBEL := Lib.hid hbel; clear hbel
    have HVS := Lib.hid hvs; clear hvs
    obtain ⟨A4, c4, rfl⟩ := own_slice HOWN.out
    by_cases hlt : k < l.length
    · obtain ⟨b, bo, rfl, _⟩ := HA.out.form (by omega)
      have hcell := (HA.out.below HBEL.out).cell hlt
      obtain ⟨x, HX⟩ : ∃ x, Hid (l[k] = x) := ⟨l[k], Lib.hid rfl⟩
      rw [HX.out] at hcell
      by_cases hx : 0 < x ∧ x ≤ 1114111 ∧ (x < 55296 ∨ 57343 < x)
      · obtain ⟨p, hxp⟩ := Int.eq_ofNat_of_zero_le (show 0 ≤ x by omega)
        have HXP := Lib.hid hxp
        have HP : Hid (May p) := by show May p; unfold May; omega
        have hp0 : ¬ x < 1 := by omega
        have hp1 : ¬ 1114111 < x := by omega
        have HSUR : Hid (p < 55296 ∨ 57344 ≤ p) := by show _ ∨ _; omega
        have hpm : p ≤ 1114111 := by omega
        clear hx hxp
        have HL4 : Hid ((E vs).length + 4 ≤ 70368744177664) := by
          show (E vs).length + 4 ≤ 70368744177664
          have h1 := E_length_le4 vs
          have h2 := HVS.out.length
          rw [List.length_take] at h2
          omega
        have HN : Hid (VZ (l.take (k + 1)) (vs ++ [p])) := by
          show VZ (l.take (k + 1)) (vs ++ [p])
          rw [List.take_succ_eq_append_getElem hlt, HX.out, HXP.out]
          exact HVS.out.snoc HP.out
        by_cases h1 : p < 128
        · have hsur : p < 55296 := by omega
          obtain rfl := HXP.out
          have HE : Hid (enc p = [p]) := by
            show _ = _
            rw [enc_def, if_pos h1]
          go_wp2_with (at_builtin
                       refine wpList_append_bytes rfl (.tmp 56) (.tmp 59) rfl w.heap.size (.slice A4 (E vs).length c4) (E vs).length (E vs) rfl (HOWN.out.alloc _) (some ⟨wr.heap.size, 0, none⟩) [p] 1 rfl (BytesAt.lit (fun j x hj => ?_) rfl) (by have := HL4.out; simp; omega) (by have := HBEL.out.size; simp; omega) ?_)
          · match j, hj with
            | 0, hj => simp at hj; subst hj; rfl
            | (j + 1), hj => simp at hj
          intro v1 w1 hap
          have HB1 := Lib.hid (hap.below ((HBEL.out.alloc HBEL.out.size _)) (by have := HBEL.out.size; simp; omega) (fun j hj => (HOWN.out.lt j hj).1)).1
          have HOWN1 := Lib.hid hap.1
          rw [← HE.out, ← E_snoc, show (E vs).length + (enc p).length = (E (vs ++ [p])).length by rw [E_snoc, List.length_append]] at HOWN1
          clear hap
          go_wp2
          go_roundw
          case rel => exact ⟨k + 1, by omega, by go_num, vs ++ [p], HN.out, HOWN1.out, HB1.out⟩
          case measure => simp [intOf]; omega
        by_cases h2 : p < 2048
        · have hsur : p < 55296 := by omega
          obtain rfl := HXP.out
          obtain ⟨x1, HX1⟩ : ∃ x, Hid (x = 192 + p / 64) := ⟨_, rfl⟩
          have o1 : bits BinOp.or IntKind.i64 192 ((p : Int) / 64) = (x1 : Int) := by rw [HX1.out, ← or192 (p / 64) (by omega)]; rfl
          obtain ⟨m1, HM1⟩ : ∃ x, Hid (x = p % 64) := ⟨_, rfl⟩
          have a1 : bits BinOp.and IntKind.i64 (p : Int) 63 = (m1 : Int) := by rw [HM1.out]; exact and63 p (by omega)
          obtain ⟨x2, HX2⟩ : ∃ x, Hid (x = 128 + m1) := ⟨_, rfl⟩
          have o2 : bits BinOp.or IntKind.i64 128 (m1 : Int) = (x2 : Int) := by rw [HX2.out]; exact or128 m1 (by rw [HM1.out]; omega)
          have b1 : x1 < 256 := by rw [HX1.out]; omega
          have b2 : x2 < 256 := by rw [HX2.out, HM1.out]; omega
          have HE : Hid (enc p = [x1, x2]) := by
            show _ = _
            rw [enc_def, if_neg h1, if_pos h2, HX1.out, HX2.out, HM1.out]
          go_wp2_with (at_builtin
                       refine wpList_append_bytes rfl (.tmp 64) (.tmp 73) rfl w.heap.size (.slice A4 (E vs).length c4) (E vs).length (E vs) rfl (HOWN.out.alloc _) (some ⟨wr.heap.size, 0, none⟩) [x1, x2] 2 rfl (BytesAt.lit (fun j x hj => ?_) rfl) (by have := HL4.out; simp; omega) (by have := HBEL.out.size; simp; omega) ?_)
          · match j, hj with
            | 0, hj => simp at hj; subst hj; rfl
            | 1, hj => simp at hj; subst hj; rfl
            | (j + 2), hj => simp at hj
          intro v1 w1 hap
          have HB1 := Lib.hid (hap.below ((HBEL.out.alloc HBEL.out.size _)) (by have := HBEL.out.size; simp; omega) (fun j hj => (HOWN.out.lt j hj).1)).1
          have HOWN1 := Lib.hid hap.1
          rw [← HE.out, ← E_snoc, show (E vs).length + (enc p).length = (E (vs ++ [p])).length by rw [E_snoc, List.length_append]] at HOWN1
          clear hap
          go_wp2
          go_roundw
          case rel => exact ⟨k + 1, by omega, by go_num, vs ++ [p], HN.out, HOWN1.out, HB1.out⟩
          case measure => simp [intOf]; omega
        by_cases h3 : p < 65536
        · by_cases hsur : p < 55296
          · have gx0 : x < 55296 := by rw [HXP.out]; omega
            have gx1 : ¬ x < 128 := by rw [HXP.out]; omega
            have gx2 : ¬ x < 2048 := by rw [HXP.out]; omega
            have gx3 : x < 65536 := by rw [HXP.out]; omega
            obtain ⟨x1, HX1⟩ : ∃ x, Hid (x = 224 + p / 4096) := ⟨_, rfl⟩
            have o1 : bits BinOp.or IntKind.i64 224 (x / 4096) = (x1 : Int) := by rw [HX1.out, ← or224 (p / 4096) (by omega), HXP.out]; rfl
            obtain ⟨m1, HM1⟩ : ∃ x, Hid (x = p / 64 % 64) := ⟨_, rfl⟩
            have a1 : bits BinOp.and IntKind.i64 (x / 64) 63 = (m1 : Int) := by rw [HM1.out, HXP.out]; exact and63 (p / 64) (by omega)
            obtain ⟨x2, HX2⟩ : ∃ x, Hid (x = 128 + m1) := ⟨_, rfl⟩
            have o2 : bits BinOp.or IntKind.i64 128 (m1 : Int) = (x2 : Int) := by rw [HX2.out]; exact or128 m1 (by rw [HM1.out]; omega)
            obtain ⟨m2, HM2⟩ : ∃ x, Hid (x = p % 64) := ⟨_, rfl⟩
            have a2 : bits BinOp.and IntKind.i64 x 63 = (m2 : Int) := by rw [HM2.out, HXP.out]; exact and63 p (by omega)
            obtain ⟨x3, HX3⟩ : ∃ x, Hid (x = 128 + m2) := ⟨_, rfl⟩
            have o3 : bits BinOp.or IntKind.i64 128 (m2 : Int) = (x3 : Int) := by rw [HX3.out]; exact or128 m2 (by rw [HM2.out]; omega)
            have b1 : x1 < 256 := by rw [HX1.out]; omega
            have b2 : x2 < 256 := by rw [HX2.out, HM1.out]; omega
            have b3 : x3 < 256 := by rw [HX3.out, HM2.out]; omega
            have HE : Hid (enc p = [x1, x2, x3]) := by
              show _ = _
              rw [enc_def, if_neg h1, if_neg h2, if_pos h3, HX1.out, HX2.out, HM1.out, HX3.out, HM2.out]
            go_wp2_with (at_builtin
                         refine wpList_append_bytes rfl (.tmp 78) (.tmp 92) rfl w.heap.size (.slice A4 (E vs).length c4) (E vs).length (E vs) rfl (HOWN.out.alloc _) (some ⟨wr.heap.size, 0, none⟩) [x1, x2, x3] 3 rfl (BytesAt.lit (fun j x hj => ?_) rfl) (by have := HL4.out; simp; omega) (by have := HBEL.out.size; simp; omega) ?_)
            · match j, hj with
              | 0, hj => simp at hj; subst hj; rfl
              | 1, hj => simp at hj; subst hj; rfl
              | 2, hj => simp at hj; subst hj; rfl
              | (j + 3), hj => simp at hj
            intro v1 w1 hap
            have HB1 := Lib.hid (hap.below ((HBEL.out.alloc HBEL.out.size _)) (by have := HBEL.out.size; simp; omega) (fun j hj => (HOWN.out.lt j hj).1)).1
            have HOWN1 := Lib.hid hap.1
            rw [← HE.out, ← E_snoc, show (E vs).length + (enc p).length = (E (vs ++ [p])).length by rw [E_snoc, List.length_append]] at HOWN1
            clear hap
            go_wp2
            go_roundw
            case rel => exact ⟨k + 1, by omega, by go_num, vs ++ [p], HN.out, HOWN1.out, HB1.out⟩
            case measure => simp [intOf]; omega
          · have gx0 : ¬ x < 57344 := by have := HSUR.out; rw [HXP.out]; omega
            have gx1 : ¬ x < 128 := by rw [HXP.out]; omega
            have gx2 : ¬ x < 2048 := by rw [HXP.out]; omega
            have gx3 : x < 65536 := by rw [HXP.out]; omega
            obtain ⟨x1, HX1⟩ : ∃ x, Hid (x = 224 + p / 4096) := ⟨_, rfl⟩
            have o1 : bits BinOp.or IntKind.i64 224 (x / 4096) = (x1 : Int) := by rw [HX1.out, ← or224 (p / 4096) (by omega), HXP.out]; rfl
            obtain ⟨m1, HM1⟩ : ∃ x, Hid (x = p / 64 % 64) := ⟨_, rfl⟩
            have a1 : bits BinOp.and IntKind.i64 (x / 64) 63 = (m1 : Int) := by rw [HM1.out, HXP.out]; exact and63 (p / 64) (by omega)
            obtain ⟨x2, HX2⟩ : ∃ x, Hid (x = 128 + m1) := ⟨_, rfl⟩
            have o2 : bits BinOp.or IntKind.i64 128 (m1 : Int) = (x2 : Int) := by rw [HX2.out]; exact or128 m1 (by rw [HM1.out]; omega)
            obtain ⟨m2, HM2⟩ : ∃ x, Hid (x = p % 64) := ⟨_, rfl⟩
            have a2 : bits BinOp.and IntKind.i64 x 63 = (m2 : Int) := by rw [HM2.out, HXP.out]; exact and63 p (by omega)
            obtain ⟨x3, HX3⟩ : ∃ x, Hid (x = 128 + m2) := ⟨_, rfl⟩
            have o3 : bits BinOp.or IntKind.i64 128 (m2 : Int) = (x3 : Int) := by rw [HX3.out]; exact or128 m2 (by rw [HM2.out]; omega)
            have b1 : x1 < 256 := by rw [HX1.out]; omega
            have b2 : x2 < 256 := by rw [HX2.out, HM1.out]; omega
            have b3 : x3 < 256 := by rw [HX3.out, HM2.out]; omega
            have HE : Hid (enc p = [x1, x2, x3]) := by
              show _ = _
              rw [enc_def, if_neg h1, if_neg h2, if_pos h3, HX1.out, HX2.out, HM1.out, HX3.out, HM2.out]
            go_wp2_with (at_builtin
                         refine wpList_append_bytes rfl (.tmp 78) (.tmp 92) rfl w.heap.size (.slice A4 (E vs).length c4) (E vs).length (E vs) rfl (HOWN.out.alloc _) (some ⟨wr.heap.size, 0, none⟩) [x1, x2, x3] 3 rfl (BytesAt.lit (fun j x hj => ?_) rfl) (by have := HL4.out; simp; omega) (by have := HBEL.out.size; simp; omega) ?_)
            · match j, hj with
              | 0, hj => simp at hj; subst hj; rfl
              | 1, hj => simp at hj; subst hj; rfl
              | 2, hj => simp at hj; subst hj; rfl
              | (j + 3), hj => simp at hj
            intro v1 w1 hap
            have HB1 := Lib.hid (hap.below ((HBEL.out.alloc HBEL.out.size _)) (by have := HBEL.out.size; simp; omega) (fun j hj => (HOWN.out.lt j hj).1)).1
            have HOWN1 := Lib.hid hap.1
            rw [← HE.out, ← E_snoc, show (E vs).length + (enc p).length = (E (vs ++ [p])).length by rw [E_snoc, List.length_append]] at HOWN1
            clear hap
            go_wp2
            go_roundw
            case rel => exact ⟨k + 1, by omega, by go_num, vs ++ [p], HN.out, HOWN1.out, HB1.out⟩
            case measure => simp [intOf]; omega
        · have gx0 : ¬ x < 57344 := by rw [HXP.out]; omega
          have gx1 : ¬ x < 128 := by rw [HXP.out]; omega
          have gx2 : ¬ x < 2048 := by rw [HXP.out]; omega
          have gx3 : ¬ x < 65536 := by rw [HXP.out]; omega
          obtain ⟨x1, HX1⟩ : ∃ x, Hid (x = 240 + p / 262144) := ⟨_, rfl⟩
          have o1 : bits BinOp.or IntKind.i64 240 (x / 262144) = (x1 : Int) := by rw [HX1.out, ← or240 (p / 262144) (by omega), HXP.out]; rfl
          obtain ⟨m0, HM0⟩ : ∃ x, Hid (x = p / 4096 % 64) := ⟨_, rfl⟩
          have a0 : bits BinOp.and IntKind.i64 (x / 4096) 63 = (m0 : Int) := by rw [HM0.out, HXP.out]; exact and63 (p / 4096) (by omega)
          obtain ⟨x0, HX0⟩ : ∃ x, Hid (x = 128 + m0) := ⟨_, rfl⟩
          have o0 : bits BinOp.or IntKind.i64 128 (m0 : Int) = (x0 : Int) := by rw [HX0.out]; exact or128 m0 (by rw [HM0.out]; omega)
          obtain ⟨m1, HM1⟩ : ∃ x, Hid (x = p / 64 % 64) := ⟨_, rfl⟩
          have a1 : bits BinOp.and IntKind.i64 (x / 64) 63 = (m1 : Int) := by rw [HM1.out, HXP.out]; exact and63 (p / 64) (by omega)
          obtain ⟨x2, HX2⟩ : ∃ x, Hid (x = 128 + m1) := ⟨_, rfl⟩
          have o2 : bits BinOp.or IntKind.i64 128 (m1 : Int) = (x2 : Int) := by rw [HX2.out]; exact or128 m1 (by rw [HM1.out]; omega)
          obtain ⟨m2, HM2⟩ : ∃ x, Hid (x = p % 64) := ⟨_, rfl⟩
          have a2 : bits BinOp.and IntKind.i64 x 63 = (m2 : Int) := by rw [HM2.out, HXP.out]; exact and63 p (by omega)
          obtain ⟨x3, HX3⟩ : ∃ x, Hid (x = 128 + m2) := ⟨_, rfl⟩
          have o3 : bits BinOp.or IntKind.i64 128 (m2 : Int) = (x3 : Int) := by rw [HX3.out]; exact or128 m2 (by rw [HM2.out]; omega)
          have b1 : x1 < 256 := by rw [HX1.out]; omega
          have b0 : x0 < 256 := by rw [HX0.out, HM0.out]; omega
          have b2 : x2 < 256 := by rw [HX2.out, HM1.out]; omega
          have b3 : x3 < 256 := by rw [HX3.out, HM2.out]; omega
          have HE : Hid (enc p = [x1, x0, x2, x3]) := by
            show _ = _
            rw [enc_def, if_neg h1, if_neg h2, if_neg h3, HX1.out, HX0.out, HM0.out, HX2.out, HM1.out, HX3.out, HM2.out]
          go_wp2_with (at_builtin
                       refine wpList_append_bytes rfl (.tmp 17) (.tmp 36) rfl w.heap.size (.slice A4 (E vs).length c4) (E vs).length (E vs) rfl (HOWN.out.alloc _) (some ⟨wr.heap.size, 0, none⟩) [x1, x0, x2, x3] 4 rfl (BytesAt.lit (fun j x hj => ?_) rfl) (by have := HL4.out; simp; omega) (by have := HBEL.out.size; simp; omega) ?_)
          · match j, hj with
            | 0, hj => simp at hj; subst hj; rfl
            | 1, hj => simp at hj; subst hj; rfl
            | 2, hj => simp at hj; subst hj; rfl
            | 3, hj => simp at hj; subst hj; rfl
            | (j + 4), hj => simp at hj
          intro v1 w1 hap
          have HB1 := Lib.hid (hap.below ((HBEL.out.alloc HBEL.out.size _)) (by have := HBEL.out.size; simp; omega) (fun j hj => (HOWN.out.lt j hj).1)).1
          have HOWN1 := Lib.hid hap.1
          rw [← HE.out, ← E_snoc, show (E vs).length + (enc p).length = (E (vs ++ [p])).length by rw [E_snoc, List.length_append]] at HOWN1
          clear hap
          go_wp2
          go_roundw
          case rel => exact ⟨k + 1, by omega, by go_num, vs ++ [p], HN.out, HOWN1.out, HB1.out⟩
          case measure => simp [intOf]; omega
      · have HN := Lib.hid (VZ.not hlt (by rw [HX.out]; exact hx))
        by_cases h1 : x < 1
        · clear hx
          go_wp2
          go_ret2
          exact ⟨.inr ⟨HN.out, rfl⟩, HBEL.out⟩
        by_cases h2 : 1114111 < x
        · clear hx
          go_wp2
          go_ret2
          first | exact ⟨.inr ⟨HN.out, rfl⟩, HBEL.out⟩ | exact ⟨.inr ⟨not_exists.1 HN.out, rfl⟩, HBEL.out⟩
        · have h3 : 55296 ≤ x := by omega
          have h4 : x < 57344 := by omega
          clear hx
          go_wp2
          go_ret2
          first | exact ⟨.inr ⟨HN.out, rfl⟩, HBEL.out⟩ | exact ⟨.inr ⟨not_exists.1 HN.out, rfl⟩, HBEL.out⟩
    · obtain rfl : k = l.length := by omega
      rw [List.take_length] at HVS
      have hcv := (BytesAt.of_own HOWN.out rfl).conv c4 9 Try.underlying9
      go_wp2
      go_ret2
      exact ⟨.inl ⟨vs, HVS.out, rfl⟩, HBEL.out⟩
end Go.Proofs.Ytdkddehapddgmaa
