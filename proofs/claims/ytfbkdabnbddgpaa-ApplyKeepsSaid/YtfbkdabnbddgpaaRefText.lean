/- The contract of the document's own Text, over any ints. Condition: no more than 2^30 ints. -/
import Derived.Test.YtfbkdabnbddgpaaUtfRel
import Derived.Test.YtfbkdabnbddgpaaBits
namespace Go.Proofs.Ytfbkdabnbddgpaa
open Go.RowKit Go.Deep

set_option maxHeartbeats 1000000 in
set_option maxRecDepth 100000 in
theorem refText_any {A : Option Addr} {l : List Int} (c : Nat) (hl : l.length ≤ 1073741824) (w : World) (hA : IntsAt w A l) :
    Calls Try.prog 21 #[.slice A l.length c] w fun e w' =>
      ((∃ vs, VZ l vs ∧ e = .returned (.tuple #[.string (bstr (E vs)), .bool true])) ∨ ((¬ ∃ vs, VZ l vs) ∧ e = .returned (.tuple #[.string (bstr []), .bool false]))) ∧ Below w.heap.size w w' := by
  have HA := Lib.hid hA; clear hA
  go_enter Try.func21, Try.ntmps21
  go_wp2
  go_loopw [4, 5] (fun v i wr => ∃ k : Nat, k ≤ l.length ∧ i = .int .i64 k ∧ TextRel w l k v wr) (fun _ i _ => l.length - (intOf i).toNat)
  case atStart => exact ⟨0, Nat.zero_le _, rfl, TextRel.start w l⟩
  case round =>
    obtain ⟨k, hk, rfl, vs, hvs, hown, hbel⟩ := hrel
    have HOWN := Lib.hid hown; clear hown
    have HBEL := Lib.hid hbel; clear hbel
    have HVS := Lib.hid hvs; clear hvs
    obtain ⟨A4, c4, rfl⟩ := own_slice HOWN.out
    by_cases hlt : k < l.length
    · obtain ⟨b, bo, rfl, _⟩ := HA.out.form (by omega)
      have hcell := (HA.out.below HBEL.out).cell hlt
      obtain ⟨x, HX⟩ : ∃ x, Hid (l[k] = x) := ⟨l[k], Lib.hid rfl⟩
      rw [HX.out] at hcell
      by_cases hx : 0 < x ∧ x ≤ 1114111 ∧ (x < 55296 ∨ 57343 < x)
      · obtain ⟨p, hxp⟩ := Int.eq_ofNat_of_zero_le (show 0 ≤ x by omega)
        have HXP := Lib.hid hxp
        have HP : Hid (May p) := by show May p; unfold May; omega
        have hp0 : ¬ x < 1 := by omega
        have hp1 : ¬ 1114111 < x := by omega
        have HSUR : Hid (p < 55296 ∨ 57344 ≤ p) := by show _ ∨ _; omega
        have hpm : p ≤ 1114111 := by omega
        clear hx hxp
        have HL4 : Hid ((E vs).length + 4 ≤ 70368744177664) := by
          show (E vs).length + 4 ≤ 70368744177664
          have h1 := E_length_le4 vs
          have h2 := HVS.out.length
          rw [List.length_take] at h2
          omega
        have HN : Hid (VZ (l.take (k + 1)) (vs ++ [p])) := by
          show VZ (l.take (k + 1)) (vs ++ [p])
          rw [List.take_succ_eq_append_getElem hlt, HX.out, HXP.out]
          exact HVS.out.snoc HP.out
        by_cases h1 : p < 128
        · have hsur : p < 55296 := by omega
          obtain rfl := HXP.out
          have HE : Hid (enc p = [p]) := by
            show _ = _
            rw [enc_def, if_pos h1]
          go_wp2_with (at_builtin
                       refine wpList_append_bytes rfl (.tmp 56) (.tmp 59) rfl w.heap.size (.slice A4 (E vs).length c4) (E vs).length (E vs) rfl (HOWN.out.alloc _) (some ⟨wr.heap.size, 0, none⟩) [p] 1 rfl (BytesAt.lit (fun j x hj => ?_) rfl) (by have := HL4.out; simp; omega) (by have := HBEL.out.size; simp; omega) ?_)
          · match j, hj with
            | 0, hj => simp at hj; subst hj; rfl
            | (j + 1), hj => simp at hj
          intro v1 w1 hap
          have HB1 := Lib.hid (hap.below ((HBEL.out.alloc HBEL.out.size _)) (by have := HBEL.out.size; simp; omega) (fun j hj => (HOWN.out.lt j hj).1)).1
          have HOWN1 := Lib.hid hap.1
          rw [← HE.out, ← E_snoc, show (E vs).length + (enc p).length = (E (vs ++ [p])).length by rw [E_snoc, List.length_append]] at HOWN1
          clear hap
          go_wp2
          go_roundw
          case rel => exact ⟨k + 1, by omega, by go_num, vs ++ [p], HN.out, HOWN1.out, HB1.out⟩
          case measure => simp [intOf]; omega
        by_cases h2 : p < 2048
        · have hsur : p < 55296 := by omega
          obtain rfl := HXP.out
          obtain ⟨x1, HX1⟩ : ∃ x, Hid (x = 192 + p / 64) := ⟨_, rfl⟩
          have o1 : bits BinOp.or IntKind.i64 192 ((p : Int) / 64) = (x1 : Int) := by rw [HX1.out, ← or192 (p / 64) (by omega)]; rfl
          obtain ⟨m1, HM1⟩ : ∃ x, Hid (x = p % 64) := ⟨_, rfl⟩
          have a1 : bits BinOp.and IntKind.i64 (p : Int) 63 = (m1 : Int) := by rw [HM1.out]; exact and63 p (by omega)
          obtain ⟨x2, HX2⟩ : ∃ x, Hid (x = 128 + m1) := ⟨_, rfl⟩
          have o2 : bits BinOp.or IntKind.i64 128 (m1 : Int) = (x2 : Int) := by rw [HX2.out]; exact or128 m1 (by rw [HM1.out]; omega)
          have b1 : x1 < 256 := by rw [HX1.out]; omega
          have b2 : x2 < 256 := by rw [HX2.out, HM1.out]; omega
          have HE : Hid (enc p = [x1, x2]) := by
            show _ = _
            rw [enc_def, if_neg h1, if_pos h2, HX1.out, HX2.out, HM1.out]
          go_wp2_with (at_builtin
                       refine wpList_append_bytes rfl (.tmp 64) (.tmp 73) rfl w.heap.size (.slice A4 (E vs).length c4) (E vs).length (E vs) rfl (HOWN.out.alloc _) (some ⟨wr.heap.size, 0, none⟩) [x1, x2] 2 rfl (BytesAt.lit (fun j x hj => ?_) rfl) (by have := HL4.out; simp; omega) (by have := HBEL.out.size; simp; omega) ?_)
          · match j, hj with
            | 0, hj => simp at hj; subst hj; rfl
            | 1, hj => simp at hj; subst hj; rfl
            | (j + 2), hj => simp at hj
          intro v1 w1 hap
          have HB1 := Lib.hid (hap.below ((HBEL.out.alloc HBEL.out.size _)) (by have := HBEL.out.size; simp; omega) (fun j hj => (HOWN.out.lt j hj).1)).1
          have HOWN1 := Lib.hid hap.1
          rw [← HE.out, ← E_snoc, show (E vs).length + (enc p).length = (E (vs ++ [p])).length by rw [E_snoc, List.length_append]] at HOWN1
          clear hap
          go_wp2
          go_roundw
          case rel => exact ⟨k + 1, by omega, by go_num, vs ++ [p], HN.out, HOWN1.out, HB1.out⟩
          case measure => simp [intOf]; omega
        by_cases h3 : p < 65536
        · by_cases hsur : p < 55296
          · have gx0 : x < 55296 := by rw [HXP.out]; omega
            have gx1 : ¬ x < 128 := by rw [HXP.out]; omega
            have gx2 : ¬ x < 2048 := by rw [HXP.out]; omega
            have gx3 : x < 65536 := by rw [HXP.out]; omega
            obtain ⟨x1, HX1⟩ : ∃ x, Hid (x = 224 + p / 4096) := ⟨_, rfl⟩
            have o1 : bits BinOp.or IntKind.i64 224 (x / 4096) = (x1 : Int) := by rw [HX1.out, ← or224 (p / 4096) (by omega), HXP.out]; rfl
            obtain ⟨m1, HM1⟩ : ∃ x, Hid (x = p / 64 % 64) := ⟨_, rfl⟩
            have a1 : bits BinOp.and IntKind.i64 (x / 64) 63 = (m1 : Int) := by rw [HM1.out, HXP.out]; exact and63 (p / 64) (by omega)
            obtain ⟨x2, HX2⟩ : ∃ x, Hid (x = 128 + m1) := ⟨_, rfl⟩
            have o2 : bits BinOp.or IntKind.i64 128 (m1 : Int) = (x2 : Int) := by rw [HX2.out]; exact or128 m1 (by rw [HM1.out]; omega)
            obtain ⟨m2, HM2⟩ : ∃ x, Hid (x = p % 64) := ⟨_, rfl⟩
            have a2 : bits BinOp.and IntKind.i64 x 63 = (m2 : Int) := by rw [HM2.out, HXP.out]; exact and63 p (by omega)
            obtain ⟨x3, HX3⟩ : ∃ x, Hid (x = 128 + m2) := ⟨_, rfl⟩
            have o3 : bits BinOp.or IntKind.i64 128 (m2 : Int) = (x3 : Int) := by rw [HX3.out]; exact or128 m2 (by rw [HM2.out]; omega)
            have b1 : x1 < 256 := by rw [HX1.out]; omega
            have b2 : x2 < 256 := by rw [HX2.out, HM1.out]; omega
            have b3 : x3 < 256 := by rw [HX3.out, HM2.out]; omega
            have HE : Hid (enc p = [x1, x2, x3]) := by
              show _ = _
              rw [enc_def, if_neg h1, if_neg h2, if_pos h3, HX1.out, HX2.out, HM1.out, HX3.out, HM2.out]
            go_wp2_with (at_builtin
                         refine wpList_append_bytes rfl (.tmp 78) (.tmp 92) rfl w.heap.size (.slice A4 (E vs).length c4) (E vs).length (E vs) rfl (HOWN.out.alloc _) (some ⟨wr.heap.size, 0, none⟩) [x1, x2, x3] 3 rfl (BytesAt.lit (fun j x hj => ?_) rfl) (by have := HL4.out; simp; omega) (by have := HBEL.out.size; simp; omega) ?_)
            · match j, hj with
              | 0, hj => simp at hj; subst hj; rfl
              | 1, hj => simp at hj; subst hj; rfl
              | 2, hj => simp at hj; subst hj; rfl
              | (j + 3), hj => simp at hj
            intro v1 w1 hap
            have HB1 := Lib.hid (hap.below ((HBEL.out.alloc HBEL.out.size _)) (by have := HBEL.out.size; simp; omega) (fun j hj => (HOWN.out.lt j hj).1)).1
            have HOWN1 := Lib.hid hap.1
            rw [← HE.out, ← E_snoc, show (E vs).length + (enc p).length = (E (vs ++ [p])).length by rw [E_snoc, List.length_append]] at HOWN1
            clear hap
            go_wp2
            go_roundw
            case rel => exact ⟨k + 1, by omega, by go_num, vs ++ [p], HN.out, HOWN1.out, HB1.out⟩
            case measure => simp [intOf]; omega
          · have gx0 : ¬ x < 57344 := by have := HSUR.out; rw [HXP.out]; omega
            have gx1 : ¬ x < 128 := by rw [HXP.out]; omega
            have gx2 : ¬ x < 2048 := by rw [HXP.out]; omega
            have gx3 : x < 65536 := by rw [HXP.out]; omega
            obtain ⟨x1, HX1⟩ : ∃ x, Hid (x = 224 + p / 4096) := ⟨_, rfl⟩
            have o1 : bits BinOp.or IntKind.i64 224 (x / 4096) = (x1 : Int) := by rw [HX1.out, ← or224 (p / 4096) (by omega), HXP.out]; rfl
            obtain ⟨m1, HM1⟩ : ∃ x, Hid (x = p / 64 % 64) := ⟨_, rfl⟩
            have a1 : bits BinOp.and IntKind.i64 (x / 64) 63 = (m1 : Int) := by rw [HM1.out, HXP.out]; exact and63 (p / 64) (by omega)
            obtain ⟨x2, HX2⟩ : ∃ x, Hid (x = 128 + m1) := ⟨_, rfl⟩
            have o2 : bits BinOp.or IntKind.i64 128 (m1 : Int) = (x2 : Int) := by rw [HX2.out]; exact or128 m1 (by rw [HM1.out]; omega)
            obtain ⟨m2, HM2⟩ : ∃ x, Hid (x = p % 64) := ⟨_, rfl⟩
            have a2 : bits BinOp.and IntKind.i64 x 63 = (m2 : Int) := by rw [HM2.out, HXP.out]; exact and63 p (by omega)
            obtain ⟨x3, HX3⟩ : ∃ x, Hid (x = 128 + m2) := ⟨_, rfl⟩
            have o3 : bits BinOp.or IntKind.i64 128 (m2 : Int) = (x3 : Int) := by rw [HX3.out]; exact or128 m2 (by rw [HM2.out]; omega)
            have b1 : x1 < 256 := by rw [HX1.out]; omega
            have b2 : x2 < 256 := by rw [HX2.out, HM1.out]; omega
            have b3 : x3 < 256 := by rw [HX3.out, HM2.out]; omega
            have HE : Hid (enc p = [x1, x2, x3]) := by
              show _ = _
              rw [enc_def, if_neg h1, if_neg h2, if_pos h3, HX1.out, HX2.out, HM1.out, HX3.out, HM2.out]
            go_wp2_with (at_builtin
                         refine wpList_append_bytes rfl (.tmp 78) (.tmp 92) rfl w.heap.size (.slice A4 (E vs).length c4) (E vs).length (E vs) rfl (HOWN.out.alloc _) (some ⟨wr.heap.size, 0, none⟩) [x1, x2, x3] 3 rfl (BytesAt.lit (fun j x hj => ?_) rfl) (by have := HL4.out; simp; omega) (by have := HBEL.out.size; simp; omega) ?_)
            · match j, hj with
              | 0, hj => simp at hj; subst hj; rfl
              | 1, hj => simp at hj; subst hj; rfl
              | 2, hj => simp at hj; subst hj; rfl
              | (j + 3), hj => simp at hj
            intro v1 w1 hap
            have HB1 := Lib.hid (hap.below ((HBEL.out.alloc HBEL.out.size _)) (by have := HBEL.out.size; simp; omega) (fun j hj => (HOWN.out.lt j hj).1)).1
            have HOWN1 := Lib.hid hap.1
            rw [← HE.out, ← E_snoc, show (E vs).length + (enc p).length = (E (vs ++ [p])).length by rw [E_snoc, List.length_append]] at HOWN1
            clear hap
            go_wp2
            go_roundw
            case rel => exact ⟨k + 1, by omega, by go_num, vs ++ [p], HN.out, HOWN1.out, HB1.out⟩
            case measure => simp [intOf]; omega
        · have gx0 : ¬ x < 57344 := by rw [HXP.out]; omega
          have gx1 : ¬ x < 128 := by rw [HXP.out]; omega
          have gx2 : ¬ x < 2048 := by rw [HXP.out]; omega
          have gx3 : ¬ x < 65536 := by rw [HXP.out]; omega
          obtain ⟨x1, HX1⟩ : ∃ x, Hid (x = 240 + p / 262144) := ⟨_, rfl⟩
          have o1 : bits BinOp.or IntKind.i64 240 (x / 262144) = (x1 : Int) := by rw [HX1.out, ← or240 (p / 262144) (by omega), HXP.out]; rfl
          obtain ⟨m0, HM0⟩ : ∃ x, Hid (x = p / 4096 % 64) := ⟨_, rfl⟩
          have a0 : bits BinOp.and IntKind.i64 (x / 4096) 63 = (m0 : Int) := by rw [HM0.out, HXP.out]; exact and63 (p / 4096) (by omega)
          obtain ⟨x0, HX0⟩ : ∃ x, Hid (x = 128 + m0) := ⟨_, rfl⟩
          have o0 : bits BinOp.or IntKind.i64 128 (m0 : Int) = (x0 : Int) := by rw [HX0.out]; exact or128 m0 (by rw [HM0.out]; omega)
          obtain ⟨m1, HM1⟩ : ∃ x, Hid (x = p / 64 % 64) := ⟨_, rfl⟩
          have a1 : bits BinOp.and IntKind.i64 (x / 64) 63 = (m1 : Int) := by rw [HM1.out, HXP.out]; exact and63 (p / 64) (by omega)
          obtain ⟨x2, HX2⟩ : ∃ x, Hid (x = 128 + m1) := ⟨_, rfl⟩
          have o2 : bits BinOp.or IntKind.i64 128 (m1 : Int) = (x2 : Int) := by rw [HX2.out]; exact or128 m1 (by rw [HM1.out]; omega)
          obtain ⟨m2, HM2⟩ : ∃ x, Hid (x = p % 64) := ⟨_, rfl⟩
          have a2 : bits BinOp.and IntKind.i64 x 63 = (m2 : Int) := by rw [HM2.out, HXP.out]; exact and63 p (by omega)
          obtain ⟨x3, HX3⟩ : ∃ x, Hid (x = 128 + m2) := ⟨_, rfl⟩
          have o3 : bits BinOp.or IntKind.i64 128 (m2 : Int) = (x3 : Int) := by rw [HX3.out]; exact or128 m2 (by rw [HM2.out]; omega)
          have b1 : x1 < 256 := by rw [HX1.out]; omega
          have b0 : x0 < 256 := by rw [HX0.out, HM0.out]; omega
          have b2 : x2 < 256 := by rw [HX2.out, HM1.out]; omega
          have b3 : x3 < 256 := by rw [HX3.out, HM2.out]; omega
          have HE : Hid (enc p = [x1, x0, x2, x3]) := by
            show _ = _
            rw [enc_def, if_neg h1, if_neg h2, if_neg h3, HX1.out, HX0.out, HM0.out, HX2.out, HM1.out, HX3.out, HM2.out]
          go_wp2_with (at_builtin
                       refine wpList_append_bytes rfl (.tmp 17) (.tmp 36) rfl w.heap.size (.slice A4 (E vs).length c4) (E vs).length (E vs) rfl (HOWN.out.alloc _) (some ⟨wr.heap.size, 0, none⟩) [x1, x0, x2, x3] 4 rfl (BytesAt.lit (fun j x hj => ?_) rfl) (by have := HL4.out; simp; omega) (by have := HBEL.out.size; simp; omega) ?_)
          · match j, hj with
            | 0, hj => simp at hj; subst hj; rfl
            | 1, hj => simp at hj; subst hj; rfl
            | 2, hj => simp at hj; subst hj; rfl
            | 3, hj => simp at hj; subst hj; rfl
            | (j + 4), hj => simp at hj
          intro v1 w1 hap
          have HB1 := Lib.hid (hap.below ((HBEL.out.alloc HBEL.out.size _)) (by have := HBEL.out.size; simp; omega) (fun j hj => (HOWN.out.lt j hj).1)).1
          have HOWN1 := Lib.hid hap.1
          rw [← HE.out, ← E_snoc, show (E vs).length + (enc p).length = (E (vs ++ [p])).length by rw [E_snoc, List.length_append]] at HOWN1
          clear hap
          go_wp2
          go_roundw
          case rel => exact ⟨k + 1, by omega, by go_num, vs ++ [p], HN.out, HOWN1.out, HB1.out⟩
          case measure => simp [intOf]; omega
      · have HN := Lib.hid (VZ.not hlt (by rw [HX.out]; exact hx))
        by_cases h1 : x < 1
        · clear hx
          go_wp2
          go_ret2
          exact ⟨.inr ⟨HN.out, rfl⟩, HBEL.out⟩
        by_cases h2 : 1114111 < x
        · clear hx
          go_wp2
          go_ret2
          first | exact ⟨.inr ⟨HN.out, rfl⟩, HBEL.out⟩ | exact ⟨.inr ⟨not_exists.1 HN.out, rfl⟩, HBEL.out⟩
        · have h3 : 55296 ≤ x := by omega
          have h4 : x < 57344 := by omega
          clear hx
          go_wp2
          go_ret2
          first | exact ⟨.inr ⟨HN.out, rfl⟩, HBEL.out⟩ | exact ⟨.inr ⟨not_exists.1 HN.out, rfl⟩, HBEL.out⟩
    · obtain rfl : k = l.length := by omega
      rw [List.take_length] at HVS
      have hcv := (BytesAt.of_own HOWN.out rfl).conv c4 9 Try.underlying9
      go_wp2
      go_ret2
      exact ⟨.inl ⟨vs, HVS.out, rfl⟩, HBEL.out⟩
end Go.Proofs.Ytfbkdabnbddgpaa
